/- Lemmas: What the package pair's gathered does. No condition. What the package pair's Pair does. No condition. What the package pair's Same does. No condition. What the program's first, Bytes, named, From do. No condition. -/
import Derived.Test.YtoddangedbefgabGreatDoorM11
set_option maxRecDepth 20000
set_option maxHeartbeats 4000000
namespace Go.Proofs.YtoddangedbefgabGreatDoor
open Go.RowKit Go.Shelf Go.Sort
attribute [local go_sem] Oper.semAt_some
theorem wpInOf {FN : Fence} {n : Nat} {P : Program} {c : Code} {Q : Exit → Act → World → Prop} {a : Act} {W : World} (S : World → Prop) (hS : S W) (h : ∀ W', S W' → c.wpIn FN n P Q a W') : c.wpIn FN n P Q a W := h W hS
theorem jct {b c : Nat} {cs cs' : Array Value} {W : World} (h : Bq b 111 cs W) (g : Bq c 72 cs' W) : b ≠ c := by
 rintro rfl
 have h' : W.heap[b]? = _ := h
 have g' : W.heap[b]? = _ := g
 rw [h'] at g'
 cases g'
structure GaJ (V : World) (p : Pt) (S : Nat → Bool) (x5 x6 x8 x9 : Value) (W : World) : Prop where
 e : Below V.heap.size V W
 f0 : S 0 = true → x8 = vP o2
 f1 : S 1 = true → x9 = vT p
 f2 : S 2 = true → ∃ b, x5 = .pointer (some ⟨b, 0, none⟩) ∧ V.heap.size ≤ b ∧ ∃ y, Bq b 111 (cP y) W ∧ (S 4 = true → y = o2)
 f3 : S 3 = true → ∃ b, x6 = .pointer (some ⟨b, 0, none⟩) ∧ V.heap.size ≤ b ∧ ∃ y, PtB b y W ∧ (S 5 = true → y = p)
 g4 : S 4 = true → S 2 = true
 g5 : S 5 = true → S 3 = true
theorem GaJ.grow {V : World} {p : Pt} {S : Nat → Bool} {x5 x6 x8 x9 : Value} {W W' : World} (h : GaJ V p S x5 x6 x8 x9 W) (hb : Below W.heap.size W W') : GaJ V p S x5 x6 x8 x9 W' :=
 ⟨jaa h.e h.e.size hb, h.f0, h.f1, fun s => (let ⟨b, e, hz, y, t, u⟩ := h.f2 s; ⟨b, e, hz, y, t.below hb, u⟩), fun s => (let ⟨b, e, hz, y, t, u⟩ := h.f3 s; ⟨b, e, hz, y, Bq.below t hb, u⟩), h.g4, h.g5⟩
theorem Lp.o3 {W : World} {k : Nat} (h : Lp W) (hk : 4 < k) (hk1 : 5 < k) (hk2 : 6 < k) (y : Pt) : Lp (Go.Proofs.YtoddangedbefgabGreatDoor.put3 k y W) := ((h.other hk hk1 hk2 _ _).other hk hk1 hk2 _ _).other hk hk1 hk2 _ _
theorem Lp.o2 {W : World} {k : Nat} (h : Lp W) (hk : 4 < k) (hk1 : 5 < k) (hk2 : 6 < k) (y : P2) : Lp (sP k y W) := (h.other hk hk1 hk2 _ _).other hk hk1 hk2 _ _
theorem Bq.oP {b k : Nat} {T : TypeId} {cs : Array Value} {W : World} (h : Bq b T cs W) (hk : b ≠ k) (y : P2) : Bq b T cs (sP k y W) := (h.other hk _ _).other hk _ _
theorem Bq.oT {b k : Nat} {T : TypeId} {cs : Array Value} {W : World} (h : Bq b T cs W) (hk : b ≠ k) (y : Pt) : Bq b T cs (Go.Proofs.YtoddangedbefgabGreatDoor.put3 k y W) := ((h.other hk _ _).other hk _ _).other hk _ _
theorem ko_sP (W : World) (k : Nat) (y : P2) (B : Nat) : KeepsFrom B W (sP k y W) := (jdb _ _ _ _).trans (jdb _ _ _ _)
theorem jch {k g : Nat} {w W : World} (h : Below k w W) (hg : k ≤ g) (y : P2) : Below k w (sP g y W) := (h.setCell (p := ⟨g, 0, none⟩) hg _).setCell (p := ⟨g, 1, none⟩) hg _
theorem size_sP (k : Nat) (y : P2) (W : World) : (sP k y W).heap.size = W.heap.size := by simp [World.setCell]
theorem gathered_any (p q : Pt) (hp : onN p = true) (hq : UT q) (w : World) (hL : Lp w) :
  Calls Tryz.prog 178 #[vT p, vT q] w fun e w' => e = .returned (vP (gaN p q)) ∧ Below w.heap.size w w' := by
 refine (callsIn_wide (n := 9)).1 ?_
 refine callsIn_of_wp_marks Tryz.func178 rfl trivial ?_ rfl
 refine wpIn_wide.2 ?_
 simp only [Tryz.ntmps178, List.size_toArray, List.length_cons, List.length_nil, Nat.reduceAdd, Nat.reduceSub, Array.replicate_succ, Array.replicate_zero, List.push_toArray, List.append_toArray, List.nil_append, List.cons_append]
 go_wp2_with fail
 refine wp_scope_straight ?_
 go_wp2_with fail
 obtain ⟨z, hz⟩ : ∃ c, w.heap.size = c := ⟨_, rfl⟩
 have HZ : Hid (w.heap.size = z) := hz
 have HL : Hid (4 < z ∧ 5 < z ∧ 6 < z) := ⟨hz ▸ hL.l.z, hz ▸ hL.za, hz ▸ hL.zb⟩
 refine wpOf (fun W => Below z w W ∧ W.heap.size = z + 3 ∧ PtB z p W ∧ PtB (z + 1) q W ∧ Bq (z + 1 + 1) 111 (cP z2) W ∧ Lp W) ?_ ?_
 ·have t2 := jbw w (.cells #[.int .u64 (p.X : Int), .int .u64 (p.Y : Int), .bool p.I] 72) (.cells #[.int .u64 (q.X : Int), .int .u64 (q.Y : Int), .bool q.I] 72)
  have t3 := jbw (w.alloc (.cells #[.int .u64 (p.X : Int), .int .u64 (p.Y : Int), .bool p.I] 72)) (.cells #[.int .u64 (q.X : Int), .int .u64 (q.Y : Int), .bool q.I] 72) (.cells (cP z2) 111)
  rw [hz] at t2
  rw [World.size_alloc, hz] at t3
  refine ⟨?_, by simp [hz], ?_, t3.1, t3.2, ((hL.alloc _).alloc _).alloc _⟩
  ·rw [← hz]
   exact (((Below.refl _ w).alloc (Nat.le_refl _) _).alloc (by simp) _).alloc (by simp; omega) _
  ·exact Bq.below t2.1 ((Below.refl _ _).alloc (Nat.le_refl _) _)
 rintro V ⟨BV, hs1, hA, hQ, hR, hLV⟩
 rw [hz]
 clear hz
 have p0 : V.cell? ⟨z, 0, none⟩ = some (.int .u64 (p.X : Int)) := hA.cell 0
 have p1 : V.cell? ⟨z, 1, none⟩ = some (.int .u64 (p.Y : Int)) := hA.cell 1
 have p2 : V.cell? ⟨z, 2, none⟩ = some (.bool p.I) := hA.cell 2
 have b0 := hLV.b0
 have b1 := hLV.b1
 have zb := hLV.zb
 have zl : z < V.heap.size := by omega
 refine jgr (fun S aa W => ∃ x5 x6 x8 x9 : Value, aa = { tmps := #[vT p, vT q, .pointer (some ⟨z, 0, none⟩), .pointer (some ⟨z + 1, 0, none⟩), .pointer (some ⟨z + 1 + 1, 0, none⟩), x5, x6, undef, x8, x9, undef, undef, undef, undef, undef, undef, undef, undef, undef, undef, undef, undef, undef, undef, undef, undef, undef, undef, undef, undef, undef, undef, undef, undef, undef], defers := [] } ∧ GaJ V p S x5 x6 x8 x9 W) (by kernel_rfl) (by kernel_rfl) ?_ ?_ ?_
 ·exact ⟨undef, undef, undef, undef, rfl, ⟨(Below.refl _ V).drew, nofun, nofun, nofun, nofun, nofun, nofun⟩⟩
 ·intro i o S aa W hi hun hJ hall K hK
  obtain ⟨x5, x6, x8, x9, rfl, h⟩ := hJ
  have hlt : i < 6 := (List.getElem?_eq_some_iff.1 hi).1
  have hcase : i = 0 ∨ i = 1 ∨ i = 2 ∨ i = 3 ∨ i = 4 ∨ i = 5 := by omega
  rcases hcase with rfl | rfl | rfl | rfl | rfl | rfl
  all_goals (have ho := (Option.some.inj hi).symm; subst ho; clear hi hlt)
  ·have c0 := (h.e.cell (p := ⟨6, 0, none⟩) zb).trans b0
   have c1 := (h.e.cell (p := ⟨6, 1, none⟩) zb).trans b1
   go_simp
   exact hK _ _ ⟨x5, x6, _, x9, rfl, ⟨h.e, fun _ => rfl, h.f1, h.f2, h.f3, h.g4, h.g5⟩⟩
  ·have c0 := (h.e.cell (p := ⟨z, 0, none⟩) zl).trans p0
   have c1 := (h.e.cell (p := ⟨z, 1, none⟩) zl).trans p1
   have c2 := (h.e.cell (p := ⟨z, 2, none⟩) zl).trans p2
   go_simp
   exact hK _ _ ⟨x5, x6, x8, _, rfl, ⟨h.e, h.f0, fun _ => rfl, h.f2, h.f3, h.g4, h.g5⟩⟩
  ·have h1 := h.grow ((Below.refl _ W).alloc (Nat.le_refl _) (.cells (cP z2) 111))
   go_simp
   exact hK _ _ ⟨_, x6, x8, x9, rfl, ⟨h1.e, h1.f0, h1.f1, fun _ => ⟨W.heap.size, rfl, h.e.size, z2, World.alloc_heap_new W _, fun s => (by rw [h.g4 s] at hun; cases hun)⟩, h1.f3, fun _ => rfl, h1.g5⟩⟩
  ·have h1 := h.grow ((Below.refl _ W).alloc (Nat.le_refl _) (.cells #[.int .u64 (oP.X : Int), .int .u64 (oP.Y : Int), .bool oP.I] 72))
   go_simp
   exact hK _ _ ⟨x5, _, x8, x9, rfl, ⟨h1.e, h1.f0, h1.f1, h1.f2, fun _ => ⟨W.heap.size, rfl, h.e.size, oP, World.alloc_heap_new W _, fun s => (by rw [h.g5 s] at hun; cases hun)⟩, h1.g4, fun _ => rfl⟩⟩
  ·have s2 : S 2 = true := hall ⟨2, .data⟩ (by simp) rfl
   have s0 : S 0 = true := hall ⟨0, .data⟩ (by simp) rfl
   obtain rfl := h.f0 s0
   obtain ⟨b, rfl, hbz, y, hY, _⟩ := h.f2 s2
   have c0 : W.cell? ⟨b, 0, none⟩ = some (.int .u64 (y.A : Int)) := hY.cell 0
   have c1 : W.cell? ⟨b, 1, none⟩ = some (.int .u64 (y.B : Int)) := hY.cell 1
   have cf : ∀ o, W.frozen? ⟨b, o, none⟩ = false := fun o => hY.fr o
   go_simp
   exact hK _ _ ⟨_, x6, _, x9, rfl, ⟨(h.e.setCell (p := ⟨b, 0, none⟩) hbz _).setCell (p := ⟨b, 1, none⟩) hbz _, h.f0, h.f1, fun _ => ⟨b, rfl, hbz, o2, hY.put2 _ _, fun _ => rfl⟩, fun s => (let ⟨c, e, hz, y, t, u⟩ := h.f3 s; ⟨c, e, hz, y, (Bq.other t (jct hY t).symm _ _).other (jct hY t).symm _ _, u⟩), fun _ => s2, h.g5⟩⟩
  ·have s3 : S 3 = true := hall ⟨3, .data⟩ (by simp) rfl
   have s1 : S 1 = true := hall ⟨1, .data⟩ (by simp) rfl
   obtain rfl := h.f1 s1
   obtain ⟨b, rfl, hbz, y, hY, _⟩ := h.f3 s3
   have c0 : W.cell? ⟨b, 0, none⟩ = some (.int .u64 (y.X : Int)) := hY.cell 0
   have c1 : W.cell? ⟨b, 1, none⟩ = some (.int .u64 (y.Y : Int)) := hY.cell 1
   have c2 : W.cell? ⟨b, 2, none⟩ = some (.bool y.I) := hY.cell 2
   have cf : ∀ o, W.frozen? ⟨b, o, none⟩ = false := fun o => hY.fr o
   go_simp
   exact hK _ _ ⟨x5, _, x8, _, rfl, ⟨jah h.e hbz p, h.f0, h.f1, fun s => (let ⟨c, e, hz, y, t, u⟩ := h.f2 s; ⟨c, e, hz, y, ((Bq.other t (jct t hY) _ _).other (jct t hY) _ _).other (jct t hY) _ _, u⟩), fun _ => ⟨b, rfl, hbz, p, PtB.put hY p, fun _ => rfl⟩, h.g4, fun _ => s3⟩⟩
 rintro S aa W hall ⟨x5, x6, x8, x9, rfl, h⟩
 obtain rfl := h.f0 (hall 0 (by decide))
 obtain rfl := h.f1 (hall 1 (by decide))
 obtain ⟨u, rfl, hu, y, hY, ey⟩ := h.f2 (hall 2 (by decide))
 rw [ey (hall 4 (by decide))] at hY
 obtain ⟨v, rfl, hv, y', hV, ey'⟩ := h.f3 (hall 3 (by decide))
 rw [ey' (hall 5 (by decide))] at hV
 have huv := jct hY hV
 have BW := jaa BV (by omega) h.e
 have A1 := Bq.below hA h.e
 have Q1 := Bq.below hQ h.e
 have R1' := Bq.below hR h.e
 have L1' := hLV.below h.e
 have huW := hY.lt
 have hvW := hV.lt
 rw [hs1] at hu hv
 clear h hall hA hQ hR hLV BV p0 p1 p2 b0 b1 zb zl hs1 V S ey ey'
 go_wp2_with fail
 refine wp_label ?_
 go_wp2_with fail
 refine (behind_any 536870717 W).mono ?_
 rintro e w2 ⟨rfl, hw2⟩
 obtain ⟨k, hk⟩ : ∃ k, W.heap.size = k := ⟨_, rfl⟩
 have B2 : Below W.heap.size W w2 := by rw [hw2]; exact (Below.refl _ W).alloc (Nat.le_refl _) _
 have hcx : NumIn W.heap.size 536870717 w2 := by rw [hw2]; exact World.alloc_heap_new W _
 have A2 := Bq.below A1 B2
 have Q2 := Bq.below Q1 B2
 have R2' := Bq.below R1' B2
 have L2' := L1'.below B2
 have Y2 := hY.below B2
 have V2 := Bq.below hV B2
 have BW2 := jaa BW (by omega) B2
 rw [hk] at hcx huW hvW ⊢
 clear hw2 B2 A1 Q1 R1' L1' hY hV BW hk W
 go_wp2_with fail
 have hxz : k < w2.heap.size := hcx.lt
 have h29 : U64 536870717 := by decide
 obtain ⟨nO, hnO⟩ : ∃ n : Nat, 536870717 = n := ⟨_, rfl⟩
 have CL := len64_order
 have eGa : gaN p q = (stG p q (jbe nO 28 28)).1 := by rw [← hnO]; rfl
 rw [hnO] at hcx h29 CL
 clear hnO
 refine (wpIn_wide (n := 9)).1 ?_
 refine wpIn_rangeFunc_ownH rfl (by omega) (gf := 197) (lb := #[.pointer (some ⟨k, 0, none⟩)]) rfl trivial (enters_of Tryz.func197 (by kernel_rfl) rfl)
  (behind_stops _ k nO h29 CL w2 hcx) (fun h k => NumK.trans h k) (fun W l o o' hl h1 h2 h3 hx => (World.putObj_heap_other (by omega)).trans hx) (Below.refl _ _) (fun _ => rfl)
  (fun pre W => PtB z p W ∧ PtB (z + 1) q W ∧ Bq (z + 1 + 1) 111 (cP z2) W ∧ Bq u 111 (cP (stG p q pre).1) W ∧ PtB v (stG p q pre).2 W ∧ Lp W ∧ Below z w W ∧ k < W.heap.size)
  (fun c pre W => False)
  (fun s A C row hs hg hr => ⟨hs.1.own hg (fun r e => (hr r e).2), hs.2.1.own hg (fun r e => (hr r e).2), hs.2.2.1.own hg (fun r e => (hr r e).2), hs.2.2.2.1.own hg (fun r e => (hr r e).2), hs.2.2.2.2.1.own hg (fun r e => (hr r e).2), hs.2.2.2.2.2.1.own hg (fun r e => (hr r e).2), hs.2.2.2.2.2.2.1.grown hg (by omega) (fun k e => Nat.le_trans (by omega) (hr k e).1), Nat.lt_of_lt_of_le hs.2.2.2.2.2.2.2 hg.size⟩)
  (fun c s A C row hs hg hr => hs)
  ⟨A2, Q2, R2', Y2, V2, L2', BW2, hxz⟩
  (fun x a' _ => a' = { tmps := #[vT p, vT q, .pointer (some ⟨z, 0, none⟩), .pointer (some ⟨z + 1, 0, none⟩), .pointer (some ⟨z + 1 + 1, 0, none⟩), .pointer (some ⟨u, 0, none⟩), .pointer (some ⟨v, 0, none⟩), .bool x, vP o2, vT p, .func (.func 197) #[] #[.pointer (some ⟨k, 0, none⟩)], .bool x, undef, undef, undef, undef, undef, undef, undef, undef, undef, undef, undef, undef, undef, undef, undef, undef, undef, undef, undef, undef, undef, undef, undef], defers := [] })
  (fun x a' _ X Y row hs hg hr => hs)
  ?assign ?body ?done ?stop
 case assign =>
  rintro l pre x W K hI hK
  dsimp only [dEnc]
  gi_wp2
  exact hK _ _ (KeepsFrom.refl _ _) (fun h => h) hI rfl
 case body =>
  clear A2 Q2 R2' Y2 V2 L2' BW2 CL hcx eGa hL
  rintro l pre x a' W hl ⟨r, hr⟩ ⟨hA, hQ, hR, hY, hV, hLi, hB, hxW⟩ rfl hlt
  obtain ⟨onS, uS⟩ := stG_ok (q := q) hp pre
  have hsn := stG_snoc p q pre x
  obtain ⟨⟨f, t⟩, hft⟩ : ∃ s, stG p q pre = s := ⟨_, rfl⟩
  rw [hft] at hY hV hsn onS uS
  simp only at hY hV onS uS
  have ot := jee onS onS
  have C1 := jfa f f uS uS
  have C2 := pline_any t t q onS (wl_u (jbs onS)) hq
  have C3 := jfa (m2 f f) (lnA t t q) (m2_u _ _) (lnA_u t t q hq)
  have C4 := psum_any t t onS onS
  have C5 := pline_any (smN t t) p q ot (wl_u (jbs hp)) hq
  have C6 := jfa (m2 (m2 f f) (lnA t t q)) (lnA (smN t t) p q) (m2_u _ _) (lnA_u _ _ q hq)
  have C7 := psum_any (smN t t) p ot hp
  unfold gst at hsn
  simp only at hsn
  clear onS uS ot hft
  obtain ⟨f1, e1⟩ : ∃ y, m2 f f = y := ⟨_, rfl⟩
  rw [e1] at C1 C3 C6 hsn
  obtain ⟨f2, e2⟩ : ∃ y, lnA t t q = y := ⟨_, rfl⟩
  rw [e2] at C2 C3 C6 hsn
  obtain ⟨f3, e3⟩ : ∃ y, m2 f1 f2 = y := ⟨_, rfl⟩
  rw [e3] at C3 C6 hsn
  obtain ⟨t2, e4⟩ : ∃ y, smN t t = y := ⟨_, rfl⟩
  rw [e4] at C4 C5 C6 C7 hsn
  obtain ⟨f4, e5⟩ : ∃ y, lnA t2 p q = y := ⟨_, rfl⟩
  rw [e5] at C5 C6 hsn
  obtain ⟨f5, e6⟩ : ∃ y, m2 f3 f4 = y := ⟨_, rfl⟩
  rw [e6] at C6 hsn
  obtain ⟨t3, e7⟩ : ∃ y, smN t2 p = y := ⟨_, rfl⟩
  rw [e7] at C7 hsn
  clear e1 e2 e3 e4 e5 e6 e7
  have c1 := jae (w := W) C1
  have c2 := inClassP C2 hLi
  have c3 := jae (w := W) C3
  have k0 := cell_regrown (show W.cell? ⟨u, 0, none⟩ = some (.int .u64 (f.A : Int)) from hY.cell 0)
  have k1 := cell_regrown (show W.cell? ⟨u, 1, none⟩ = some (.int .u64 (f.B : Int)) from hY.cell 1)
  have k2 := cell_regrown (show W.cell? ⟨v, 0, none⟩ = some (.int .u64 (t.X : Int)) from hV.cell 0)
  have k3 := cell_regrown (show W.cell? ⟨v, 1, none⟩ = some (.int .u64 (t.Y : Int)) from hV.cell 1)
  have k4 := cell_regrown (show W.cell? ⟨v, 2, none⟩ = some (.bool t.I) from hV.cell 2)
  have k5 := cell_regrown (show W.cell? ⟨z + 1, 0, none⟩ = some (.int .u64 (q.X : Int)) from hQ.cell 0)
  have k6 := cell_regrown (show W.cell? ⟨z + 1, 1, none⟩ = some (.int .u64 (q.Y : Int)) from hQ.cell 1)
  have k7 := cell_regrown (show W.cell? ⟨z + 1, 2, none⟩ = some (.bool q.I) from hQ.cell 2)
  have HH : Hid (_ ∧ _ ∧ _ ∧ _ ∧ _ ∧ _ ∧ _ ∧ _) := ⟨hA, hQ, hR, hY, hV, hLi, hB, hxW⟩
  have HC : Hid (_ ∧ _ ∧ _ ∧ _) := ⟨C4, C5, C6, C7⟩
  clear hA hQ hR hY hV hLi hB hxW C1 C2 C3 C4 C5 C6 C7
  gi_wp2_with fail
  refine jdt l _ 8 (by kernel_rfl) (by kernel_rfl) (by rintro ⟨_, _, h⟩; exact h) (by kernel_rfl) ?_
  simp only [List.take_succ_cons, List.take_zero, List.drop_succ_cons, List.drop_zero]
  iterate 2 (quiet_step (fail))
  quiet_step (exact c1 _ _)
  iterate 3 (quiet_step (fail))
  quiet_step (exact c2 _ _)
  quiet_step (exact c3 _ _)
  refine wpQuiet_nil ?_
  intro W4 hw8
  have B4 : Below W.heap.size W W4 := by
   obtain ⟨p, rfl⟩ := hw8
   exact below_regrown _ _ _
  clear hw8 k0 k1 k2 k3 k4 k5 k6 k7 c1 c2 c3
  obtain ⟨hA, hQ, hR, hY, hV, hLi, hB, hxW⟩ := HH.out
  obtain ⟨l0, l1, l2⟩ := HL.out
  have hvu : v ≠ u := fun e => huv e.symm
  have A4 := Bq.below hA B4
  have Q4 := Bq.below hQ B4
  have R4' := Bq.below hR B4
  have Y4 := Bq.below hY B4
  have V4 := Bq.below hV B4
  have L4' := hLi.below B4
  have BW4 := jaa hB (by omega) B4
  have A5 := A4.oP (k := u) (by omega) f3
  have Q5 := Q4.oP (k := u) (by omega) f3
  have R5' := R4'.oP (k := u) (by omega) f3
  have V5 := V4.oP (k := u) hvu f3
  have Y5 := Y4.put2 (.int .u64 (f3.A : Int)) (.int .u64 (f3.B : Int))
  have L5' := L4'.o2 (k := u) (by omega) (by omega) (by omega) f3
  have BW5 := jch BW4 (g := u) (by omega) f3
  have k5 : KeepsFrom w2.heap.size W (sP u f3 W4) := ((jbm B4).from _).trans (ko_sP _ _ _ _)
  have n5 : NumK k nO W (sP u f3 W4) := fun h => (h.below B4).oP (by omega) f3
  have z5 : k < (sP u f3 W4).heap.size := by rw [size_sP]; exact Nat.lt_of_lt_of_le hxW B4.size
  have H5 : Hid (_ ∧ _ ∧ _ ∧ _ ∧ _ ∧ _ ∧ _ ∧ _ ∧ _ ∧ _) := ⟨A5, Q5, R5', Y5, V5, L5', BW5, k5, n5, z5⟩
  have y0 : W4.cell? ⟨u, 0, none⟩ = some (.int .u64 (f.A : Int)) := Y4.cell 0
  have y1 : W4.cell? ⟨u, 1, none⟩ = some (.int .u64 (f.B : Int)) := Y4.cell 1
  have yf : ∀ o, W4.frozen? ⟨u, o, none⟩ = false := fun o => Y4.fr o
  have v0 : W4.cell? ⟨v, 0, none⟩ = some (.int .u64 (t.X : Int)) := V4.cell 0
  have v1 : W4.cell? ⟨v, 1, none⟩ = some (.int .u64 (t.Y : Int)) := V4.cell 1
  have v2 : W4.cell? ⟨v, 2, none⟩ = some (.bool t.I) := V4.cell 2
  clear hA hQ hR hY hV hLi hB hxW A4 Q4 R4' Y4 V4 L4' BW4 A5 Q5 R5' V5 Y5 L5' BW5 k5 n5 z5 B4 HH l0 l1 l2
  go_wp2_with fail
  gi_wp2_with fail
  refine ⟨trivial, (CallsIn.inRound l (callsIn_wide.2 (HC.out.1 _ H5.out.2.2.2.2.2.1))).mono ?_⟩
  rintro e W6 ⟨rfl, B6⟩
  obtain ⟨A5, Q5, R5', Y5, V5, L5', BW5, k5, n5, z5⟩ := H5.out
  obtain ⟨l0, l1, l2⟩ := HL.out
  have A6 := Bq.below A5 B6
  have Q6 := Bq.below Q5 B6
  have R6' := Bq.below R5' B6
  have Y6 := Bq.below Y5 B6
  have V6 := Bq.below V5 B6
  have L6' := L5'.below B6
  have BW6 := jaa BW5 (by omega) B6
  have v0' : W6.cell? ⟨v, 0, none⟩ = some (.int .u64 (t.X : Int)) := V6.cell 0
  have v1' : W6.cell? ⟨v, 1, none⟩ = some (.int .u64 (t.Y : Int)) := V6.cell 1
  have v2' : W6.cell? ⟨v, 2, none⟩ = some (.bool t.I) := V6.cell 2
  have vf : ∀ o, W6.frozen? ⟨v, o, none⟩ = false := fun o => V6.fr o
  have A7 := Bq.oT A6 (k := v) (by omega) t2
  have Q7 := Bq.oT Q6 (k := v) (by omega) t2
  have R7' := R6'.oT (k := v) (by omega) t2
  have Y7 := Y6.oT (k := v) huv t2
  have V7 := PtB.put V6 t2
  have L7' := L6'.o3 (k := v) (by omega) (by omega) (by omega) t2
  have BW7 := jah BW6 (g := v) (by omega) t2
  have k7 : KeepsFrom w2.heap.size W (put3 v t2 W6) := (k5.trans ((jbm B6).from _)).trans (jfo _ _ _ _)
  have n7 : NumK k nO W (put3 v t2 W6) := fun h => Bq.oT ((n5 h).below B6) (by omega) t2
  have z7 : k < (put3 v t2 W6).heap.size := by rw [jdh]; exact Nat.lt_of_lt_of_le z5 B6.size
  have H7 : Hid (_ ∧ _ ∧ _ ∧ _ ∧ _ ∧ _ ∧ _ ∧ _ ∧ _ ∧ _) := ⟨A7, Q7, R7', Y7, V7, L7', BW7, k7, n7, z7⟩
  clear A5 Q5 R5' Y5 V5 L5' BW5 k5 n5 z5 A6 Q6 R6' Y6 V6 L6' BW6 A7 Q7 R7' Y7 V7 L7' BW7 k7 n7 z7 B6 H5 y0 y1 yf v0 v1 v2 l0 l1 l2
  cases x with
  | false =>
   gi_wp2
   obtain ⟨A7, Q7, R7', Y7, V7, L7', BW7, k7, n7, z7⟩ := H7.out
   refine (?_ : KeepsFrom _ W _ ∧ NumK _ _ W _ ∧ _ ∧ _ ∧ _ ∧ _ ∧ _ ∧ _ ∧ _ ∧ _)
   rw [hsn]
   exact ⟨k7, n7, A7, Q7, R7', Y7, V7, L7', BW7, z7⟩
  | true =>
   gi_wp2_with fail
   refine wpInOf (fun U => PtB z p U ∧ PtB (z + 1) q U ∧ Bq (z + 1 + 1) 111 (cP z2) U ∧ Bq u 111 (cP f3) U ∧ PtB v t2 U ∧ Lp U ∧ Below z w U ∧ KeepsFrom w2.heap.size W U ∧ NumK k nO W U ∧ k < U.heap.size) H7.out ?_
   rintro U ⟨A7, Q7, R7', Y7, V7, L7', BW7, k7, n7, z7⟩
   clear H7 v0' v1' v2' vf
   have HD : Hid (_ ∧ _ ∧ _) := HC.out.2
   have c1 := inClassP HD.out.1 L7'
   have c2 := jae (w := U) HD.out.2.1
   have k0 := cell_regrown (show U.cell? ⟨u, 0, none⟩ = some (.int .u64 (f3.A : Int)) from Y7.cell 0)
   have k1 := cell_regrown (show U.cell? ⟨u, 1, none⟩ = some (.int .u64 (f3.B : Int)) from Y7.cell 1)
   have k2 := cell_regrown (show U.cell? ⟨v, 0, none⟩ = some (.int .u64 (t2.X : Int)) from V7.cell 0)
   have k3 := cell_regrown (show U.cell? ⟨v, 1, none⟩ = some (.int .u64 (t2.Y : Int)) from V7.cell 1)
   have k4 := cell_regrown (show U.cell? ⟨v, 2, none⟩ = some (.bool t2.I) from V7.cell 2)
   have k5 := cell_regrown (show U.cell? ⟨z + 1, 0, none⟩ = some (.int .u64 (q.X : Int)) from Q7.cell 0)
   have k6 := cell_regrown (show U.cell? ⟨z + 1, 1, none⟩ = some (.int .u64 (q.Y : Int)) from Q7.cell 1)
   have k7' := cell_regrown (show U.cell? ⟨z + 1, 2, none⟩ = some (.bool q.I) from Q7.cell 2)
   have k8 := cell_regrown (show U.cell? ⟨z, 0, none⟩ = some (.int .u64 (p.X : Int)) from A7.cell 0)
   have k9 := cell_regrown (show U.cell? ⟨z, 1, none⟩ = some (.int .u64 (p.Y : Int)) from A7.cell 1)
   have k10 := cell_regrown (show U.cell? ⟨z, 2, none⟩ = some (.bool p.I) from A7.cell 2)
   have HH : Hid (_ ∧ _ ∧ _ ∧ _ ∧ _ ∧ _ ∧ _ ∧ _ ∧ _ ∧ _) := ⟨A7, Q7, R7', Y7, V7, L7', BW7, k7, n7, z7⟩
   clear A7 Q7 R7' Y7 V7 L7' BW7 k7 n7 z7
   refine jdt l _ 6 (by kernel_rfl) (by kernel_rfl) (by rintro ⟨_, _, h⟩; exact h) (by kernel_rfl) ?_
   simp only [List.take_succ_cons, List.take_zero, List.drop_succ_cons, List.drop_zero]
   iterate 4 (quiet_step (fail))
   quiet_step (exact c1 _ _)
   quiet_step (exact c2 _ _)
   refine wpQuiet_nil ?_
   intro W4 hw8
   have B4 : Below U.heap.size U W4 := by
    obtain ⟨p, rfl⟩ := hw8
    exact below_regrown _ _ _
   clear hw8 k0 k1 k2 k3 k4 k5 k6 k7' k8 k9 k10 c1 c2
   obtain ⟨hA, hQ, hR, hY, hV, hLi, hB, k7, n7, z7⟩ := HH.out
   obtain ⟨l0, l1, l2⟩ := HL.out
   have A4 := Bq.below hA B4
   have Q4 := Bq.below hQ B4
   have R4' := Bq.below hR B4
   have Y4 := Bq.below hY B4
   have V4 := Bq.below hV B4
   have L4' := hLi.below B4
   have BW4 := jaa hB (by omega) B4
   have A5 := A4.oP (k := u) (by omega) f5
   have Q5 := Q4.oP (k := u) (by omega) f5
   have R5' := R4'.oP (k := u) (by omega) f5
   have V5 := V4.oP (k := u) hvu f5
   have Y5 := Y4.put2 (.int .u64 (f5.A : Int)) (.int .u64 (f5.B : Int))
   have L5' := L4'.o2 (k := u) (by omega) (by omega) (by omega) f5
   have BW5 := jch BW4 (g := u) (by omega) f5
   have k5 : KeepsFrom w2.heap.size W (sP u f5 W4) := (k7.trans ((jbm B4).from _)).trans (ko_sP _ _ _ _)
   have n5 : NumK k nO W (sP u f5 W4) := fun h => ((n7 h).below B4).oP (by omega) f5
   have z5 : k < (sP u f5 W4).heap.size := by rw [size_sP]; exact Nat.lt_of_lt_of_le z7 B4.size
   have H5 : Hid (_ ∧ _ ∧ _ ∧ _ ∧ _ ∧ _ ∧ _ ∧ _ ∧ _ ∧ _) := ⟨A5, Q5, R5', Y5, V5, L5', BW5, k5, n5, z5⟩
   have y0 : W4.cell? ⟨u, 0, none⟩ = some (.int .u64 (f3.A : Int)) := Y4.cell 0
   have y1 : W4.cell? ⟨u, 1, none⟩ = some (.int .u64 (f3.B : Int)) := Y4.cell 1
   have yf : ∀ o, W4.frozen? ⟨u, o, none⟩ = false := fun o => Y4.fr o
   have v0 : W4.cell? ⟨v, 0, none⟩ = some (.int .u64 (t2.X : Int)) := V4.cell 0
   have v1 : W4.cell? ⟨v, 1, none⟩ = some (.int .u64 (t2.Y : Int)) := V4.cell 1
   have v2 : W4.cell? ⟨v, 2, none⟩ = some (.bool t2.I) := V4.cell 2
   have p0 : W4.cell? ⟨z, 0, none⟩ = some (.int .u64 (p.X : Int)) := A4.cell 0
   have p1 : W4.cell? ⟨z, 1, none⟩ = some (.int .u64 (p.Y : Int)) := A4.cell 1
   have p2 : W4.cell? ⟨z, 2, none⟩ = some (.bool p.I) := A4.cell 2
   have hzu : z ≠ u := by omega
   have huz : u ≠ z := by omega
   clear hA hQ hR hY hV hLi hB A4 Q4 R4' Y4 V4 L4' BW4 A5 Q5 R5' V5 Y5 L5' BW5 k5 n5 z5 B4 HH l0 l1 l2 k7 n7 z7
   go_wp2_with fail
   gi_wp2_with fail
   refine ⟨trivial, (CallsIn.inRound l (callsIn_wide.2 (HD.out.2.2 _ H5.out.2.2.2.2.2.1))).mono ?_⟩
   rintro e W6 ⟨rfl, B6⟩
   obtain ⟨A5, Q5, R5', Y5, V5, L5', BW5, k5, n5, z5⟩ := H5.out
   obtain ⟨l0, l1, l2⟩ := HL.out
   have A6 := Bq.below A5 B6
   have Q6 := Bq.below Q5 B6
   have R6' := Bq.below R5' B6
   have Y6 := Bq.below Y5 B6
   have V6 := Bq.below V5 B6
   have L6' := L5'.below B6
   have BW6 := jaa BW5 (by omega) B6
   have v0' : W6.cell? ⟨v, 0, none⟩ = some (.int .u64 (t2.X : Int)) := V6.cell 0
   have v1' : W6.cell? ⟨v, 1, none⟩ = some (.int .u64 (t2.Y : Int)) := V6.cell 1
   have v2' : W6.cell? ⟨v, 2, none⟩ = some (.bool t2.I) := V6.cell 2
   have vf : ∀ o, W6.frozen? ⟨v, o, none⟩ = false := fun o => V6.fr o
   have A7 := Bq.oT A6 (k := v) (by omega) t3
   have Q7 := Bq.oT Q6 (k := v) (by omega) t3
   have R7' := R6'.oT (k := v) (by omega) t3
   have Y7 := Y6.oT (k := v) huv t3
   have V7 := PtB.put V6 t3
   have L7' := L6'.o3 (k := v) (by omega) (by omega) (by omega) t3
   have BW7 := jah BW6 (g := v) (by omega) t3
   have k7 : KeepsFrom w2.heap.size W (put3 v t3 W6) := (k5.trans ((jbm B6).from _)).trans (jfo _ _ _ _)
   have n7 : NumK k nO W (put3 v t3 W6) := fun h => Bq.oT ((n5 h).below B6) (by omega) t3
   have z7 : k < (put3 v t3 W6).heap.size := by rw [jdh]; exact Nat.lt_of_lt_of_le z5 B6.size
   have H7 : Hid (_ ∧ _ ∧ _ ∧ _ ∧ _ ∧ _ ∧ _ ∧ _ ∧ _ ∧ _) := ⟨A7, Q7, R7', Y7, V7, L7', BW7, k7, n7, z7⟩
   clear A5 Q5 R5' Y5 V5 L5' BW5 k5 n5 z5 A6 Q6 R6' Y6 V6 L6' BW6 A7 Q7 R7' Y7 V7 L7' BW7 k7 n7 z7 B6 H5 y0 y1 yf v0 v1 v2 p0 p1 p2 l0 l1 l2
   gi_wp2
   obtain ⟨A7, Q7, R7', Y7, V7, L7', BW7, k7, n7, z7⟩ := H7.out
   refine (?_ : KeepsFrom _ W _ ∧ NumK _ _ W _ ∧ _ ∧ _ ∧ _ ∧ _ ∧ _ ∧ _ ∧ _ ∧ _)
   rw [hsn]
   exact ⟨k7, n7, A7, Q7, R7', Y7, V7, L7', BW7, z7⟩
 case done =>
  rintro D ys W hD rfl ⟨hA, hQ, hR, hY, hV, hLi, hB, hxW⟩ hK
  rw [← eGa] at hY
  obtain ⟨x, hx⟩ : ∃ x, gaN p q = x := ⟨_, rfl⟩
  rw [hx] at hY
  have c0 : W.cell? ⟨u, 0, none⟩ = some (.int .u64 (x.A : Int)) := hY.cell 0
  have c1 : W.cell? ⟨u, 1, none⟩ = some (.int .u64 (x.B : Int)) := hY.cell 1
  have r0 : W.cell? ⟨z + 1 + 1, 0, none⟩ = some (.int .u64 0) := hR.cell 0
  have r1 : W.cell? ⟨z + 1 + 1, 1, none⟩ = some (.int .u64 0) := hR.cell 1
  have rf : ∀ o, W.frozen? ⟨z + 1 + 1, o, none⟩ = false := fun o => hR.fr o
  have hDz : D ≠ z + 1 + 1 := by omega
  have hK' : (sP (z + 1 + 1) x W).heap[D]? = some (.deferred (some [])) := by
   show ((W.setCell _ _).setCell _ _).heap[D]? = _
   rw [Below.heap_setCell _ _ _ _ hDz, Below.heap_setCell _ _ _ _ hDz]
   exact hK
  have hBx : Below z w (sP (z + 1 + 1) x W) := jch hB (by omega) x
  have R9' : Bq (z + 1 + 1) 111 (cP x) ((sP (z + 1 + 1) x W).putObj D (.deferred none)) := (World.putObj_heap_other (by omega)).trans (hR.put2 (.int .u64 (x.A : Int)) (.int .u64 (x.B : Int)))
  have H8 : Hid (_ ∧ _ ∧ _) := ⟨hK', hBx, R9'⟩
  clear hK' hBx R9' eGa A2 Q2 R2' Y2 V2 L2' BW2
  go_wp2
  obtain ⟨hK', hBx, R9'⟩ := H8.out
  have s0 := R9'.cell 0
  have s1 := R9'.cell 1
  have hbP := belowK_b (n₀ := z) (w := w2) (by omega) (sP (z + 1 + 1) x W) D _ (.deferred none) hD hK' rfl rfl
  rw [Exit.noGoto_ret]
  refine ⟨by simp, .inl ⟨_, _, rfl, run_takeDeferred hK', ?_⟩⟩
  refine ⟨vP x, by simp [results, Tryz.results178, go_sem, *], by rw [hx], ?_⟩
  rw [HZ.out]
  exact hBx.trans hbP
 case stop =>
  rintro D c pre W hD hq' hF hK
  exact hF.elim
end Go.Proofs.YtoddangedbefgabGreatDoor
namespace Go.Proofs.YtoddangedbefgabGreatDoor
open Go.RowKit Go.Shelf Go.Sort
def prV (p q : Pt) : Value := if (grN p && grN q) = true then okP (prN p q) else erP
theorem jdu {p : Pt} (h : grN p = true) : onN p = true := by
 have e : grN p = (onN p && decide (tmN p 536870717 = iN)) := rfl
 rw [e] at h
 exact (Bool.and_eq_true_iff.1 h).1
theorem pPair1 (p q : Pt) (up : UT p) (hp : grN p = false) (w : World) (hL : Lp w) :
  Calls Tryz.prog 159 #[vT p, vT q] w fun e w' => e = .returned (erP) ∧ Below w.heap.size w w' := by
 have C1 := jbo p up
 rw [hp] at C1
 clear up hp
 go_enter Tryz.func159, Tryz.ntmps159
 go_wp2_with fail
 refine jay (fun V => Below w.heap.size w V ∧ Tb w.heap.size p V ∧ Tb (w.heap.size + 1) q V ∧ Pb (w.heap.size + 1 + 1) z2 V ∧ Lp V) ⟨by go_grown, ((Tb.new' w p 72 _ rfl).alloc _).alloc _, (Tb.new' _ q 72 _ (by simp)).alloc _, Pb.new' _ z2 111 _ (by simp), ((hL.alloc _).alloc _).alloc _⟩ ?_
 rintro V ⟨BV, hA, hB, hO, hLV⟩
 have H0 : Hid (_ ∧ _ ∧ _ ∧ _ ∧ _) := ⟨BV, hA, hB, hO, hLV⟩
 clear BV hA hB hO hLV hL
 refine (C1 _ H0.out.2.2.2.2.l).mono ?_
 rintro e w1 ⟨rfl, B1⟩
 obtain ⟨BW, hA, hB, hO, hLV⟩ := H0.out
 have BW' := jaa BW BW.size B1
 have A' := hA.below B1
 have D' := hB.below B1
 have O' := hO.below B1
 have L' := hLV.below B1
 have H1 : Hid (_ ∧ _ ∧ _ ∧ _ ∧ _) := ⟨BW', A', D', O', L'⟩
 clear BW hA hB hO hLV H0 BW' A' D' O' L' B1
 obtain ⟨BW, hA, hB, hO, hLV⟩ := H1.out
 have lq := hLV.ne
 obtain ⟨z, a, b, f⟩ := hO
 clear hA hB hLV H1
 go_wp2_with fail
 refine bodyPost_ret (v := erP) (by simp [results, Tryz.results159, go_sem, z2, *]) rfl ⟨rfl, ?_⟩
 exact (BW.setCell (p := ⟨w.heap.size + 1 + 1, 0, none⟩) (by show _ ≤ w.heap.size + 1 + 1; omega) _).setCell (p := ⟨w.heap.size + 1 + 1, 1, none⟩) (by show _ ≤ w.heap.size + 1 + 1; omega) _
theorem pPair2 (p q : Pt) (up : UT p) (uq : UT q) (hp : grN p = true) (hq : grN q = false) (w : World) (hL : Lp w) :
  Calls Tryz.prog 159 #[vT p, vT q] w fun e w' => e = .returned (erP) ∧ Below w.heap.size w w' := by
 have C1 := jbo p up
 rw [hp] at C1
 have C2 := jbo q uq
 rw [hq] at C2
 clear up uq hp hq
 go_enter Tryz.func159, Tryz.ntmps159
 go_wp2_with fail
 refine jay (fun V => Below w.heap.size w V ∧ Tb w.heap.size p V ∧ Tb (w.heap.size + 1) q V ∧ Pb (w.heap.size + 1 + 1) z2 V ∧ Lp V) ⟨by go_grown, ((Tb.new' w p 72 _ rfl).alloc _).alloc _, (Tb.new' _ q 72 _ (by simp)).alloc _, Pb.new' _ z2 111 _ (by simp), ((hL.alloc _).alloc _).alloc _⟩ ?_
 rintro V ⟨BV, hA, hB, hO, hLV⟩
 have H0 : Hid (_ ∧ _ ∧ _ ∧ _ ∧ _) := ⟨BV, hA, hB, hO, hLV⟩
 clear BV hA hB hO hLV hL
 refine (C1 _ H0.out.2.2.2.2.l).mono ?_
 rintro e w1 ⟨rfl, B1⟩
 obtain ⟨BW, hA, hB, hO, hLV⟩ := H0.out
 have BW' := jaa BW BW.size B1
 have A' := hA.below B1
 have D' := hB.below B1
 have O' := hO.below B1
 have L' := hLV.below B1
 have H1 : Hid (_ ∧ _ ∧ _ ∧ _ ∧ _) := ⟨BW', A', D', O', L'⟩
 clear BW hA hB hO hLV H0 BW' A' D' O' L' B1
 have ⟨_, ba, bb, bc, bf⟩ := H1.out.2.2.1
 go_wp2_with fail
 refine (C2 _ H1.out.2.2.2.2.l).mono ?_
 clear ba bb bc bf
 rintro e w2 ⟨rfl, B2⟩
 obtain ⟨BW, hA, hB, hO, hLV⟩ := H1.out
 have BW' := jaa BW BW.size B2
 have A' := hA.below B2
 have D' := hB.below B2
 have O' := hO.below B2
 have L' := hLV.below B2
 have H2 : Hid (_ ∧ _ ∧ _ ∧ _ ∧ _) := ⟨BW', A', D', O', L'⟩
 clear BW hA hB hO hLV H1 BW' A' D' O' L' B2
 obtain ⟨BW, hA, hB, hO, hLV⟩ := H2.out
 have lq := hLV.ne
 obtain ⟨z, a, b, f⟩ := hO
 clear hA hB hLV H2
 go_wp2_with fail
 refine bodyPost_ret (v := erP) (by simp [results, Tryz.results159, go_sem, z2, *]) rfl ⟨rfl, ?_⟩
 exact (BW.setCell (p := ⟨w.heap.size + 1 + 1, 0, none⟩) (by show _ ≤ w.heap.size + 1 + 1; omega) _).setCell (p := ⟨w.heap.size + 1 + 1, 1, none⟩) (by show _ ≤ w.heap.size + 1 + 1; omega) _
theorem pPair3 (p q : Pt) (up : UT p) (uq : UT q) (hp : grN p = true) (hq : grN q = true) (h1 : p = iN) (w : World) (hL : Lp w) :
  Calls Tryz.prog 159 #[vT p, vT q] w fun e w' => e = .returned (okP (prN p q)) ∧ Below w.heap.size w w' := by
 have eM : prN p q = o2 := by unfold prN; rw [if_pos (.inl h1)]
 rw [eM]
 have C1 := jbo p up
 rw [hp] at C1
 have C2 := jbo q uq
 rw [hq] at C2
 have hE := eqlI p
 rw [decide_eq_true h1] at hE
 clear up uq hp hq eM h1
 go_enter Tryz.func159, Tryz.ntmps159
 go_wp2_with fail
 refine jay (fun V => Below w.heap.size w V ∧ Tb w.heap.size p V ∧ Tb (w.heap.size + 1) q V ∧ Pb (w.heap.size + 1 + 1) z2 V ∧ Lp V) ⟨by go_grown, ((Tb.new' w p 72 _ rfl).alloc _).alloc _, (Tb.new' _ q 72 _ (by simp)).alloc _, Pb.new' _ z2 111 _ (by simp), ((hL.alloc _).alloc _).alloc _⟩ ?_
 rintro V ⟨BV, hA, hB, hO, hLV⟩
 have H0 : Hid (_ ∧ _ ∧ _ ∧ _ ∧ _) := ⟨BV, hA, hB, hO, hLV⟩
 clear BV hA hB hO hLV hL
 refine (C1 _ H0.out.2.2.2.2.l).mono ?_
 rintro e w1 ⟨rfl, B1⟩
 obtain ⟨BW, hA, hB, hO, hLV⟩ := H0.out
 have BW' := jaa BW BW.size B1
 have A' := hA.below B1
 have D' := hB.below B1
 have O' := hO.below B1
 have L' := hLV.below B1
 have H1 : Hid (_ ∧ _ ∧ _ ∧ _ ∧ _) := ⟨BW', A', D', O', L'⟩
 clear BW hA hB hO hLV H0 BW' A' D' O' L' B1
 have ⟨_, ba, bb, bc, bf⟩ := H1.out.2.2.1
 go_wp2_with fail
 refine (C2 _ H1.out.2.2.2.2.l).mono ?_
 clear ba bb bc bf
 rintro e w2 ⟨rfl, B2⟩
 obtain ⟨BW, hA, hB, hO, hLV⟩ := H1.out
 have BW' := jaa BW BW.size B2
 have A' := hA.below B2
 have D' := hB.below B2
 have O' := hO.below B2
 have L' := hLV.below B2
 have H2 : Hid (_ ∧ _ ∧ _ ∧ _ ∧ _) := ⟨BW', A', D', O', L'⟩
 clear BW hA hB hO hLV H1 BW' A' D' O' L' B2
 have ⟨_, aa, ab, ac, af⟩ := H2.out.2.1
 have ⟨_, ba, bb, bc, bf⟩ := H2.out.2.2.1
 have lq := H2.out.2.2.2.2.ne
 have za := H2.out.2.2.2.2.za
 have a0 := H2.out.2.2.2.2.a0
 have a1 := H2.out.2.2.2.2.a1
 have a2 := H2.out.2.2.2.2.a2
 have zb := H2.out.2.2.2.2.zb
 have b0 := H2.out.2.2.2.2.b0
 have b1 := H2.out.2.2.2.2.b1
 obtain ⟨z, a, b, f⟩ := H2.out.2.2.2.1
 go_wp2_with fail
 obtain ⟨BW, _⟩ := H2.out
 refine bodyPost_ret (v := okP o2) (by simp [results, Tryz.results159, go_sem, o2, *]) rfl ⟨rfl, ?_⟩
 exact (BW.setCell (p := ⟨w.heap.size + 1 + 1, 0, none⟩) (by show _ ≤ w.heap.size + 1 + 1; omega) _).setCell (p := ⟨w.heap.size + 1 + 1, 1, none⟩) (by show _ ≤ w.heap.size + 1 + 1; omega) _
theorem pPair4 (p q : Pt) (up : UT p) (uq : UT q) (hp : grN p = true) (hq : grN q = true) (h1 : ¬ p = iN) (h2 : q = iN) (w : World) (hL : Lp w) :
  Calls Tryz.prog 159 #[vT p, vT q] w fun e w' => e = .returned (okP (prN p q)) ∧ Below w.heap.size w w' := by
 have eM : prN p q = o2 := by unfold prN; rw [if_pos (.inr h2)]
 rw [eM]
 have C1 := jbo p up
 rw [hp] at C1
 have C2 := jbo q uq
 rw [hq] at C2
 have hE := eqlI p
 rw [decide_eq_false h1] at hE
 have hF := eqlI q
 rw [decide_eq_true h2] at hF
 clear up uq hp hq eM h1 h2
 go_enter Tryz.func159, Tryz.ntmps159
 go_wp2_with fail
 refine jay (fun V => Below w.heap.size w V ∧ Tb w.heap.size p V ∧ Tb (w.heap.size + 1) q V ∧ Pb (w.heap.size + 1 + 1) z2 V ∧ Lp V) ⟨by go_grown, ((Tb.new' w p 72 _ rfl).alloc _).alloc _, (Tb.new' _ q 72 _ (by simp)).alloc _, Pb.new' _ z2 111 _ (by simp), ((hL.alloc _).alloc _).alloc _⟩ ?_
 rintro V ⟨BV, hA, hB, hO, hLV⟩
 have H0 : Hid (_ ∧ _ ∧ _ ∧ _ ∧ _) := ⟨BV, hA, hB, hO, hLV⟩
 clear BV hA hB hO hLV hL
 refine (C1 _ H0.out.2.2.2.2.l).mono ?_
 rintro e w1 ⟨rfl, B1⟩
 obtain ⟨BW, hA, hB, hO, hLV⟩ := H0.out
 have BW' := jaa BW BW.size B1
 have A' := hA.below B1
 have D' := hB.below B1
 have O' := hO.below B1
 have L' := hLV.below B1
 have H1 : Hid (_ ∧ _ ∧ _ ∧ _ ∧ _) := ⟨BW', A', D', O', L'⟩
 clear BW hA hB hO hLV H0 BW' A' D' O' L' B1
 have ⟨_, ba, bb, bc, bf⟩ := H1.out.2.2.1
 go_wp2_with fail
 refine (C2 _ H1.out.2.2.2.2.l).mono ?_
 clear ba bb bc bf
 rintro e w2 ⟨rfl, B2⟩
 obtain ⟨BW, hA, hB, hO, hLV⟩ := H1.out
 have BW' := jaa BW BW.size B2
 have A' := hA.below B2
 have D' := hB.below B2
 have O' := hO.below B2
 have L' := hLV.below B2
 have H2 : Hid (_ ∧ _ ∧ _ ∧ _ ∧ _) := ⟨BW', A', D', O', L'⟩
 clear BW hA hB hO hLV H1 BW' A' D' O' L' B2
 have ⟨_, aa, ab, ac, af⟩ := H2.out.2.1
 have ⟨_, ba, bb, bc, bf⟩ := H2.out.2.2.1
 have lq := H2.out.2.2.2.2.ne
 have za := H2.out.2.2.2.2.za
 have a0 := H2.out.2.2.2.2.a0
 have a1 := H2.out.2.2.2.2.a1
 have a2 := H2.out.2.2.2.2.a2
 have zb := H2.out.2.2.2.2.zb
 have b0 := H2.out.2.2.2.2.b0
 have b1 := H2.out.2.2.2.2.b1
 obtain ⟨z, a, b, f⟩ := H2.out.2.2.2.1
 go_wp2_with fail
 obtain ⟨BW, _⟩ := H2.out
 refine bodyPost_ret (v := okP o2) (by simp [results, Tryz.results159, go_sem, o2, *]) rfl ⟨rfl, ?_⟩
 exact (BW.setCell (p := ⟨w.heap.size + 1 + 1, 0, none⟩) (by show _ ≤ w.heap.size + 1 + 1; omega) _).setCell (p := ⟨w.heap.size + 1 + 1, 1, none⟩) (by show _ ≤ w.heap.size + 1 + 1; omega) _
theorem pPair5 (p q : Pt) (up : UT p) (uq : UT q) (hp : grN p = true) (hq : grN q = true) (h1 : ¬ p = iN) (h2 : ¬ q = iN) (w : World) (hL : Lp w) :
  Calls Tryz.prog 159 #[vT p, vT q] w fun e w' => e = .returned (okP (prN p q)) ∧ Below w.heap.size w w' := by
 have eM : prN p q = q2 (gaN p q) 8589931464 := by unfold prN; rw [if_neg (by rintro (h | h); exact h1 h; exact h2 h)]
 rw [eM]
 have C1 := jbo p up
 rw [hp] at C1
 have C2 := jbo q uq
 rw [hq] at C2
 have hE := eqlI p
 rw [decide_eq_false h1] at hE
 have hF := eqlI q
 rw [decide_eq_false h2] at hF
 have CG := gathered_any p q (jdu hp) uq
 have uG : UP (gaN p q) := (stG_ok (jdu hp) _).2
 have CP := pow2_any (gaN p q) 8589931464 uG (by decide)
 obtain ⟨g, hg⟩ : ∃ x, gaN p q = x := ⟨_, rfl⟩
 rw [hg] at CG CP ⊢
 obtain ⟨x, hx⟩ : ∃ x, q2 g 8589931464 = x := ⟨_, rfl⟩
 rw [hx] at CP ⊢
 clear hg hx uG
 clear up uq hp hq eM h1 h2
 go_enter Tryz.func159, Tryz.ntmps159
 go_wp2_with fail
 refine jay (fun V => Below w.heap.size w V ∧ Tb w.heap.size p V ∧ Tb (w.heap.size + 1) q V ∧ Pb (w.heap.size + 1 + 1) z2 V ∧ Lp V) ⟨by go_grown, ((Tb.new' w p 72 _ rfl).alloc _).alloc _, (Tb.new' _ q 72 _ (by simp)).alloc _, Pb.new' _ z2 111 _ (by simp), ((hL.alloc _).alloc _).alloc _⟩ ?_
 rintro V ⟨BV, hA, hB, hO, hLV⟩
 have H0 : Hid (_ ∧ _ ∧ _ ∧ _ ∧ _) := ⟨BV, hA, hB, hO, hLV⟩
 clear BV hA hB hO hLV hL
 refine (C1 _ H0.out.2.2.2.2.l).mono ?_
 rintro e w1 ⟨rfl, B1⟩
 obtain ⟨BW, hA, hB, hO, hLV⟩ := H0.out
 have BW' := jaa BW BW.size B1
 have A' := hA.below B1
 have D' := hB.below B1
 have O' := hO.below B1
 have L' := hLV.below B1
 have H1 : Hid (_ ∧ _ ∧ _ ∧ _ ∧ _) := ⟨BW', A', D', O', L'⟩
 clear BW hA hB hO hLV H0 BW' A' D' O' L' B1
 have ⟨_, ba, bb, bc, bf⟩ := H1.out.2.2.1
 go_wp2_with fail
 refine (C2 _ H1.out.2.2.2.2.l).mono ?_
 clear ba bb bc bf
 rintro e w2 ⟨rfl, B2⟩
 obtain ⟨BW, hA, hB, hO, hLV⟩ := H1.out
 have BW' := jaa BW BW.size B2
 have A' := hA.below B2
 have D' := hB.below B2
 have O' := hO.below B2
 have L' := hLV.below B2
 have H2 : Hid (_ ∧ _ ∧ _ ∧ _ ∧ _) := ⟨BW', A', D', O', L'⟩
 clear BW hA hB hO hLV H1 BW' A' D' O' L' B2
 have ⟨_, aa, ab, ac, af⟩ := H2.out.2.1
 have ⟨_, ba, bb, bc, bf⟩ := H2.out.2.2.1
 have lq := H2.out.2.2.2.2.ne
 have za := H2.out.2.2.2.2.za
 have a0 := H2.out.2.2.2.2.a0
 have a1 := H2.out.2.2.2.2.a1
 have a2 := H2.out.2.2.2.2.a2
 go_wp2_with fail
 refine (CG _ H2.out.2.2.2.2).mono ?_
 clear aa ab ac af ba bb bc bf lq za a0 a1 a2
 rintro e w3 ⟨rfl, B3⟩
 obtain ⟨BW, hA, hB, hO, hLV⟩ := H2.out
 have BW' := jaa BW BW.size B3
 have A' := hA.below B3
 have D' := hB.below B3
 have O' := hO.below B3
 have L' := hLV.below B3
 have H3 : Hid (_ ∧ _ ∧ _ ∧ _ ∧ _) := ⟨BW', A', D', O', L'⟩
 clear BW hA hB hO hLV H2 BW' A' D' O' L' B3
 go_wp2_with fail
 refine (CP _).mono ?_
 rintro e w4 ⟨rfl, B4⟩
 obtain ⟨BW, hA, hB, hO, hLV⟩ := H3.out
 have BW' := jaa BW BW.size B4
 have A' := hA.below B4
 have D' := hB.below B4
 have O' := hO.below B4
 have L' := hLV.below B4
 have H4 : Hid (_ ∧ _ ∧ _ ∧ _ ∧ _) := ⟨BW', A', D', O', L'⟩
 clear BW hA hB hO hLV H3 BW' A' D' O' L' B4
 obtain ⟨BW, hA, hB, hO, hLV⟩ := H4.out
 obtain ⟨z, a, b, f⟩ := hO
 clear hA hB hLV H4
 go_wp2_with fail
 refine bodyPost_ret (v := okP x) (by simp [results, Tryz.results159, go_sem, *]) rfl ⟨rfl, ?_⟩
 exact (BW.setCell (p := ⟨w.heap.size + 1 + 1, 0, none⟩) (by show _ ≤ w.heap.size + 1 + 1; omega) _).setCell (p := ⟨w.heap.size + 1 + 1, 1, none⟩) (by show _ ≤ w.heap.size + 1 + 1; omega) _
theorem jeq (p q : Pt) (up : UT p) (uq : UT q) (w : World) (hL : Lp w) :
  Calls Tryz.prog 159 #[vT p, vT q] w fun e w' => e = .returned (prV p q) ∧ Below w.heap.size w w' := by
 unfold prV
 cases hp : grN p
 ·rw [if_neg (by simp)]; exact pPair1 p q up hp w hL
 cases hq : grN q
 ·rw [if_neg (by simp)]; exact pPair2 p q up uq hp hq w hL
 rw [if_pos (by simp)]
 by_cases h1 : p = iN
 ·exact pPair3 p q up uq hp hq h1 w hL
 by_cases h2 : q = iN
 ·exact pPair4 p q up uq hp hq h1 h2 w hL
 exact pPair5 p q up uq hp hq h1 h2 w hL
end Go.Proofs.YtoddangedbefgabGreatDoor
namespace Go.Proofs.YtoddangedbefgabGreatDoor
open Go.RowKit Go.Shelf Go.Sort
def eqP (p q : P2) : Bool := decide (p.A = q.A) && decide (p.B = q.B)
def saB (a b c d : Pt) : Bool := (grN a && grN b) && (grN c && grN d)
def saV (a b c d : Pt) : Value := if saB a b c d = true then .tuple #[.bool (eqP (prN a b) (prN c d)), .int .i64 0] else .tuple #[.bool false, .int .i64 100]
theorem eqlP (p q : P2) (W : World) : (binOp .eql 111 (vP p) (vP q)).run Tryz.prog W = .ok (.bool (eqP p q)) W := by
 obtain ⟨a, b⟩ := p
 obtain ⟨c, d⟩ := q
 unfold eqP
 by_cases h1 : a = c
 ·by_cases h2 : b = d
  ·subst h1 h2; simp [go_sem]
  ·subst h1
   have h2' : ¬ (b : Int) = d := by omega
   simp [go_sem, h2, h2']
 ·have h1' : ¬ (a : Int) = c := by omega
  simp [go_sem, h1, h1']
theorem pSame1 (a b c d : Pt) (ua : UT a) (ub : UT b) (h : (grN a && grN b) = false) (w : World) (hL : Lp w) :
  Calls Tryz.prog 142 #[vT a, vT b, vT c, vT d] w fun e w' => e = .returned (.tuple #[.bool false, .int .i64 100]) ∧ Below w.heap.size w w' := by
 have C1 := jeq a b ua ub
 unfold prV at C1
 rw [if_neg (by rw [h]; simp)] at C1
 clear h
 go_enter Tryz.func142, Tryz.ntmps142
 go_wp2_with fail
 refine jay (fun V => Below w.heap.size w V ∧ Lp V) ⟨by go_grown, (((hL.alloc _).alloc _).alloc _).alloc _⟩ ?_
 rintro V ⟨BV, hLV⟩
 refine (C1 _ hLV).mono ?_
 rintro e w1 ⟨rfl, B1⟩
 have BW := jaa BV BV.size B1
 clear BV B1 hLV hL C1 V
 go_wp2_with fail
 refine bodyPost_ret (v := .tuple #[.bool false, .int .i64 100]) (by simp [results, Tryz.results142, go_sem, *]) rfl ⟨rfl, ?_⟩
 exact BW.alloc BW.size _
theorem pSame2 (a b c d : Pt) (ua : UT a) (ub : UT b) (uc : UT c) (ud : UT d) (h : (grN a && grN b) = true) (h' : (grN c && grN d) = false) (w : World) (hL : Lp w) :
  Calls Tryz.prog 142 #[vT a, vT b, vT c, vT d] w fun e w' => e = .returned (.tuple #[.bool false, .int .i64 100]) ∧ Below w.heap.size w w' := by
 have C1 := jeq a b ua ub
 have C2 := jeq c d uc ud
 unfold prV at C1 C2
 rw [if_pos h] at C1
 rw [if_neg (by rw [h']; simp)] at C2
 obtain ⟨x, hx⟩ : ∃ x, prN a b = x := ⟨_, rfl⟩
 rw [hx] at C1
 clear h h' hx ua ub uc ud
 go_enter Tryz.func142, Tryz.ntmps142
 go_wp2_with fail
 refine jay (fun V => Below w.heap.size w V ∧ Tb (w.heap.size + 1 + 1) c V ∧ Tb (w.heap.size + 1 + 1 + 1) d V ∧ Lp V) ⟨by go_grown, (Tb.new' _ c 72 _ (by simp)).alloc _, Tb.new' _ d 72 _ (by simp), (((hL.alloc _).alloc _).alloc _).alloc _⟩ ?_
 rintro V ⟨BV, hC, hD, hLV⟩
 refine (C1 _ hLV).mono ?_
 rintro e w1 ⟨rfl, B1⟩
 have BW := jaa BV BV.size B1
 have D1 := hC.below B1
 have E1 := hD.below B1
 have L1' := hLV.below B1
 clear BV B1 hLV hL C1 hC hD V
 have ⟨_, ca, cb, cc, cf⟩ := D1
 have ⟨_, da, db, dc, df⟩ := E1
 go_wp2_with fail
 refine jay (fun V => Below w.heap.size w V ∧ Pb w1.heap.size x V ∧ Lp V) ⟨BW.alloc BW.size _, Pb.new' _ x 111 _ rfl, L1'.alloc _⟩ ?_
 rintro V ⟨BV, hX, hLV⟩
 refine (C2 _ hLV).mono ?_
 rintro e w2 ⟨rfl, B2⟩
 have BW2 := jaa BV BV.size B2
 have X2' := hX.below B2
 clear BV B2 hLV BW C2 hX D1 E1 L1' ca cb cc cf da db dc df V
 obtain ⟨xz, xa, xb, xf⟩ := X2'
 go_wp2_with fail
 refine bodyPost_ret (v := .tuple #[.bool false, .int .i64 100]) (by simp [results, Tryz.results142, go_sem, *]) rfl ⟨rfl, ?_⟩
 exact BW2.alloc BW2.size _
theorem pSame3 (a b c d : Pt) (ua : UT a) (ub : UT b) (uc : UT c) (ud : UT d) (h : (grN a && grN b) = true) (h' : (grN c && grN d) = true) (w : World) (hL : Lp w) :
  Calls Tryz.prog 142 #[vT a, vT b, vT c, vT d] w fun e w' => e = .returned (.tuple #[.bool (eqP (prN a b) (prN c d)), .int .i64 0]) ∧ Below w.heap.size w w' := by
 have C1 := jeq a b ua ub
 have C2 := jeq c d uc ud
 unfold prV at C1 C2
 rw [if_pos h] at C1
 rw [if_pos h'] at C2
 have hE := eqlP (prN a b) (prN c d)
 obtain ⟨x, hx⟩ : ∃ x, prN a b = x := ⟨_, rfl⟩
 obtain ⟨y, hy⟩ : ∃ x, prN c d = x := ⟨_, rfl⟩
 rw [hx] at C1 hE ⊢
 rw [hy] at C2 hE ⊢
 obtain ⟨r, hr⟩ : ∃ r, eqP x y = r := ⟨_, rfl⟩
 rw [hr] at hE ⊢
 clear h h' hx hy hr ua ub uc ud
 go_enter Tryz.func142, Tryz.ntmps142
 go_wp2_with fail
 refine jay (fun V => Below w.heap.size w V ∧ Tb (w.heap.size + 1 + 1) c V ∧ Tb (w.heap.size + 1 + 1 + 1) d V ∧ Lp V) ⟨by go_grown, (Tb.new' _ c 72 _ (by simp)).alloc _, Tb.new' _ d 72 _ (by simp), (((hL.alloc _).alloc _).alloc _).alloc _⟩ ?_
 rintro V ⟨BV, hC, hD, hLV⟩
 refine (C1 _ hLV).mono ?_
 rintro e w1 ⟨rfl, B1⟩
 have BW := jaa BV BV.size B1
 have D1 := hC.below B1
 have E1 := hD.below B1
 have L1' := hLV.below B1
 clear BV B1 hLV hL C1 hC hD V
 have ⟨_, ca, cb, cc, cf⟩ := D1
 have ⟨_, da, db, dc, df⟩ := E1
 go_wp2_with fail
 refine jay (fun V => Below w.heap.size w V ∧ Pb w1.heap.size x V ∧ Lp V) ⟨BW.alloc BW.size _, Pb.new' _ x 111 _ rfl, L1'.alloc _⟩ ?_
 rintro V ⟨BV, hX, hLV⟩
 refine (C2 _ hLV).mono ?_
 rintro e w2 ⟨rfl, B2⟩
 have BW2 := jaa BV BV.size B2
 have X2' := hX.below B2
 clear BV B2 hLV BW C2 hX D1 E1 L1' ca cb cc cf da db dc df V
 obtain ⟨xz, xa, xb, xf⟩ := X2'
 go_wp2_with fail
 refine bodyPost_ret (v := .tuple #[.bool r, .int .i64 0]) (by simp [results, Tryz.results142, go_sem, *]) rfl ⟨rfl, ?_⟩
 exact BW2.alloc BW2.size _
theorem pSame_any (a b c d : Pt) (ua : UT a) (ub : UT b) (uc : UT c) (ud : UT d) (w : World) (hL : Lp w) :
  Calls Tryz.prog 142 #[vT a, vT b, vT c, vT d] w fun e w' => e = .returned (saV a b c d) ∧ Below w.heap.size w w' := by
 unfold saV saB
 cases h : grN a && grN b
 ·rw [if_neg (by simp)]; exact pSame1 a b c d ua ub h w hL
 cases h' : grN c && grN d
 ·rw [if_neg (by simp)]; exact pSame2 a b c d ua ub uc ud h h' w hL
 ·rw [if_pos (by simp)]; exact pSame3 a b c d ua ub uc ud h h' w hL
def fsN (p : Pt) : Nat := if p = iN then 0 else if p.Y % 2 = 0 then 2 else 3
theorem first_any (p : Pt) (hp : UT p) (w : World) (hL : Li w) :
  Calls Tryz.prog 176 #[vT p] w fun e w' => e = .returned (.int .u8 (fsN p : Nat)) ∧ Below w.heap.size w w' := by
 have lq := (hL).ne
 have ⟨lz, la, lb, lc, lo⟩ := hL
 have hE := eqlI p
 unfold fsN
 by_cases e1 : p = iN
 ·rw [decide_eq_true e1] at hE
  rw [if_pos e1]
  obtain ⟨pX, pY, pI⟩ := p
  simp only [vT] at hE ⊢
  clear e1
  go_enter Tryz.func176, Tryz.ntmps176
  go_wp2_with fail
  go_ret
  exact ⟨rfl, by go_grown⟩
 ·rw [decide_eq_false e1] at hE
  rw [if_neg e1]
  obtain ⟨pX, pY, pI⟩ := p
  simp only [vT] at hE ⊢
  clear e1
  by_cases h2 : pY % 2 = 0
  ·rw [if_pos h2]
   have h2' : (pY : Int) % 2 = 0 := by omega
   go_enter Tryz.func176, Tryz.ntmps176
   go_wp2_with fail
   go_ret
   exact ⟨rfl, by go_grown⟩
  ·rw [if_neg h2]
   have h2' : (pY : Int) % 2 = 1 := by omega
   go_enter Tryz.func176, Tryz.ntmps176
   go_wp2_with fail
   go_ret
   exact ⟨rfl, by go_grown⟩
def bvF (f x : Nat) (j : Nat) : Int := if j = 0 then (f : Int) else ((x / 256 ^ (4 - j) % 256 : Nat) : Int)
def txF (f x : Nat) : ByteArray := ⟨(by8 5 (bvF f x)).toArray⟩
theorem fs_lt (p : Pt) : fsN p < 256 := by unfold fsN; split; omega; split <;> omega
theorem bv_bd (f x : Nat) (hf : f < 256) (j : Nat) : 0 ≤ bvF f x j ∧ bvF f x j < 256 := by
 unfold bvF
 split
 ·omega
 ·have := Nat.mod_lt (x / 256 ^ (4 - j)) (show 0 < 256 by omega)
  omega
theorem tx_size (f x : Nat) : (txF f x).size = 5 := by8_size 5 _
theorem text_of (f x b1 b2 b3 b4 : Nat) (hf : f < 256) (h1 : x / 16777216 % 256 = b1) (h2 : x / 65536 % 256 = b2) (h3 : x / 256 % 256 = b3) (h4 : x % 256 = b4) (W : World) (t : TypeId) :
  (convert 116 9 (.slice (some ⟨W.heap.size, 0, none⟩) 5 5)).run Tryz.prog (W.alloc (.cells #[.int .u8 (f : Int), .int .u8 (b1 : Int), .int .u8 (b2 : Int), .int .u8 (b3 : Int), .int .u8 (b4 : Int)] t)) = .ok (.string (txF f x)) (W.alloc (.cells #[.int .u8 (f : Int), .int .u8 (b1 : Int), .int .u8 (b2 : Int), .int .u8 (b3 : Int), .int .u8 (b4 : Int)] t)) := by
 have hl : (by8 5 (bvF f x)).length = 5 := by8_len 5 _
 have := run_convert_bytes_back (P := Tryz.prog) (W.alloc (.cells #[.int .u8 (f : Int), .int .u8 (b1 : Int), .int .u8 (b2 : Int), .int .u8 (b3 : Int), .int .u8 (b4 : Int)] t)) 116 9 5 ⟨W.heap.size, 0, none⟩ 5 (by8 5 (bvF f x)) Tryz.underlying116 Tryz.underlying5 Tryz.underlying9 (fun j hj => by
  rw [Addr.add_mid, Nat.zero_add, by8_at 5 _ (bv_bd f x hf)]
  rw [hl] at hj
  subst h1 h2 h3 h4
  match j, hj with
  | 0, _ => simp [go_sem, bvF]
  | 1, _ => simp [go_sem, bvF]
  | 2, _ => simp [go_sem, bvF]
  | 3, _ => simp [go_sem, bvF]
  | 4, _ => simp [go_sem, bvF])
 rw [hl] at this
 exact this
def bytV (p : Pt) : Value := if grN p = true then .tuple #[.string (txF (fsN p) p.X), .int .i64 0] else .tuple #[.string ⟨#[]⟩, .int .i64 100]
theorem bytes_any (p : Pt) (hp : UT p) (w : World) (hL : Li w) :
  Calls Tryz.prog 157 #[vT p] w fun e w' => e = .returned (bytV p) ∧ Below w.heap.size w w' := by
 have C1 := jbo p hp
 have C2 := first_any p hp
 have hf := fs_lt p
 unfold bytV
 cases hg : grN p
 ·rw [hg] at C1
  rw [if_neg (by simp)]
  go_enter Tryz.func157, Tryz.ntmps157
  go_wp2_with fail
  refine jay (fun W => Below w.heap.size w W ∧ Tb w.heap.size p W ∧ Li W) ⟨by go_grown, Tb.new' w p 72 _ rfl, hL.below (by go_grown)⟩ ?_
  rintro V ⟨BV, hA, LV⟩
  refine (C1 _ LV).mono ?_
  rintro e w1 ⟨rfl, B1⟩
  have BW := jaa BV BV.size B1
  clear BV hA LV B1
  go_wp2_with fail
  refine bodyPost_ret (v := .tuple #[.string ⟨#[]⟩, .int .i64 100]) (by simp [results, Tryz.results157, go_sem, *]) rfl ⟨rfl, BW⟩
 rw [hg] at C1
 rw [if_pos rfl]
 obtain ⟨f, hf'⟩ : ∃ f, fsN p = f := ⟨_, rfl⟩
 rw [hf'] at C2 hf ⊢
 clear hf'
 go_enter Tryz.func157, Tryz.ntmps157
 go_wp2_with fail
 refine jay (fun W => Below w.heap.size w W ∧ Tb w.heap.size p W ∧ Li W) ⟨by go_grown, Tb.new' w p 72 _ rfl, hL.below (by go_grown)⟩ ?_
 rintro V ⟨BV, hA, LV⟩
 refine (C1 _ LV).mono ?_
 rintro e w1 ⟨rfl, B1⟩
 have A1 := hA.below B1
 have LW1 := LV.below B1
 have BW := jaa BV BV.size B1
 clear BV hA LV B1 V
 go_wp2_with fail
 have c2 := inClassL C2 LW1
 have k0 := cell_regrown A1.a
 have k1 := cell_regrown A1.b
 have k2 := cell_regrown A1.c
 have HV : Hid _ := BW
 obtain ⟨b1, h1⟩ : ∃ b, p.X / 16777216 % 256 = b := ⟨_, rfl⟩
 obtain ⟨b2, h2⟩ : ∃ b, p.X / 65536 % 256 = b := ⟨_, rfl⟩
 obtain ⟨b3, h3⟩ : ∃ b, p.X / 256 % 256 = b := ⟨_, rfl⟩
 obtain ⟨b4, h4⟩ : ∃ b, p.X % 256 = b := ⟨_, rfl⟩
 have e1 : IntKind.u8.wrap ((p.X : Int) / 16777216) = b1 := by rw [IntKind.wrap_u8]; omega
 have e2 : IntKind.u8.wrap ((p.X : Int) / 65536) = b2 := by rw [IntKind.wrap_u8]; omega
 have e3 : IntKind.u8.wrap ((p.X : Int) / 256) = b3 := by rw [IntKind.wrap_u8]; omega
 have e4 : IntKind.u8.wrap (p.X : Int) = b4 := by rw [IntKind.wrap_u8]; omega
 clear A1 LW1 BW C1 C2
 refine jar 17 (by kernel_rfl) (by kernel_rfl) ?_
 simp only [List.take_succ_cons, List.take_zero, List.drop_succ_cons, List.drop_zero]
 quiet_step (fail)
 quiet_step (exact c2 _ _)
 iterate 15 (quiet_step (fail))
 refine wpQuiet_nil ?_
 intro w8 hw8
 have B8 : Below w1.heap.size w1 w8 := by
  obtain ⟨p, rfl⟩ := hw8
  exact below_regrown _ _ _
 have BW := jaa HV.out (HV.out).size B8
 have hcv := text_of f p.X b1 b2 b3 b4 hf h1 h2 h3 h4 w8
 clear hw8 k0 k1 k2 c2 B8 HV h1 h2 h3 h4 e1 e2 e3 e4
 go_wp2_with fail
 refine bodyPost_ret (v := .tuple #[.string (txF f p.X), .int .i64 0]) (by simp [results, Tryz.results157, go_sem, *]) rfl ⟨rfl, BW.alloc BW.size _⟩
end Go.Proofs.YtoddangedbefgabGreatDoor
