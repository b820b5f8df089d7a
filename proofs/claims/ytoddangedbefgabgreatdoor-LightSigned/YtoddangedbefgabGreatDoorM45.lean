/- Lemmas: What the package's Apply does with a message that is right. No condition but on sizes that no machine has. -/
import Derived.Test.YtoddangedbefgabGreatDoorM44
set_option maxRecDepth 20000
set_option maxHeartbeats 8000000
namespace Go.Proofs.YtoddangedbefgabGreatDoor
open Go.RowKit Go.Shelf Go.Sort
theorem apply_yes (s : StD) (hs0 : s.ok) (zs : szT s) (d : UpD) (hd : d.ok) (zd : szU d) (p : StP) (q : UpP) (now : Nat) (n : Nat) (w : World) (hL : Ls w) (hn : n ≤ w.heap.size) (hps : stIn n w s p) (hp : upIn n w d q) (he : chE s d now = 0) :
  Calls Tryz.prog 10 #[.agg (stV s p).toArray, .agg (upV d q).toArray, .int .u64 (now : Int)] w fun x w' => (∃ q', x = .returned (.tuple #[.agg (stV (apS s d now) q').toArray, .int .i64 0]) ∧ storG w.heap.size w' (apS s d now) q') ∧ Below w.heap.size w w' := by
 have eS : apS s d now = if fzB (apT s d) d = true then tkS (apT s d) d else apT s d := if_neg (by rw [he]; exact fun h => h rfl)
 have KC := check_any14 s hs0 zs d hd zd p q now n
 have K1 := fun (W : World) (hB : Below w.heap.size w W) (hs : w.heap.size ≤ W.heap.size) => KC W (hL.below hB) (Nat.le_trans hn hs) (hps.below (hB.mono hn)) (hp.below (hB.mono hn))
 rw [he] at K1
 have K2 := jea d hd q
 have K3 := better_any d s.best hd hs0.2.2.1 q p.best
 have K4 := fun c => pickUp_any c (upV d q).toArray (upV s.best p.best).toArray rfl rfl (jba (jbj _ _)) (jba (jbj _ _))
 have K5 := jdl d.l s.new q.l p.new
 have K6 := fun c => pickLt_any c (ltV d.l q.l).toArray (ltV s.new p.new).toArray rfl rfl (jba (jbx _ _)) (jba (jbx _ _))
 have K7 := finalizes_any (apT s d) d hd (apP s d p q) q
 have K8 := takenOver_any (apT s d) d (apT_ok hs0 hd) hd (apP s d p q) q
 have K9 := fun (W : World) (hB : Below w.heap.size w W) (hs : w.heap.size ≤ W.heap.size) => jha (apS s d now) (apS_sz zs zd) (apQ s d p q now) n W (Nat.le_trans hn hs) (apS_in (hps.below (hB.mono hn)) (hp.below (hB.mono hn)))
 have eQ : apQ s d p q now = if fzB (apT s d) d = true then tkP (apT s d) d (apP s d p q) q else apP s d p q := if_neg (by rw [he]; exact fun h => h rfl)
 have h9 := L9_of s p
 have eT : stV (apT s d) (apP s d p q) = st9 (ltV s.fin p.fin) (if apN s d = true then ltV d.l q.l else ltV s.new p.new) (cmV s.now p.now) (cmV s.nxt p.nxt) (if apB s d = true then upV d q else upV s.best p.best) true s.last (apM s d) s.forced := by
  rw [stV_st9]
  unfold apT apP
  dsimp only
  congr 1
  all_goals (split <;> rfl)
 have lT : Hid ((stV (tkS (apT s d) d) (tkP (apT s d) d (apP s d p q) q)).length = 51) := show _ from rfl
 have oT : Hid ((stV (tkS (apT s d) d) (tkP (apT s d) d (apP s d p q) q)).toArray.all (·.oneCell') = true) := show _ from jba (jbz _ _)
 have eF : stV (apS s d now) (apQ s d p q now) = if fzB (apT s d) d = true then stV (tkS (apT s d) d) (tkP (apT s d) d (apP s d p q) q) else stV (apT s d) (apP s d p q) := by
  rw [eS, eQ]
  split <;> rfl
 rw [eF] at K9
 rw [eT] at K7 K8 K9
 have b2 : apB s d = (!s.has || betR (merN d) (merN s.best)) := rfl
 have b5 : apN s d = (decide ((max s.last (max s.this ((sgN d.bits : Nat) : Int))).tdiv 2 < ((sgN d.bits : Nat) : Int)) && decide (s.new.s < d.l.s)) := rfl
 have bM : apM s d = max s.this ((sgN d.bits : Nat) : Int) := rfl
 have hsg := sgN_le d.bits
 have hl := hs0.2.2.2.1
 have ht := hs0.2.2.2.2
 rw [stV_st9 s p] at K1 ⊢
 rw [b2, b5, bM] at K7 K8 K9
 have ul := upV_l d q
 have HLn : Hid ((upV d q).length = 25 ∧ (ltV d.l q.l).length = 9) := show _ from ⟨rfl, rfl⟩
 have oU : ∀ v ∈ upV d q, v.oneCell' = true := jbj _ _
 have oE : ∀ v ∈ upV s.best p.best, v.oneCell' = true := jbj _ _
 have o9 : ∀ v ∈ ltV d.l q.l, v.oneCell' = true := jbx _ _
 have oA : ∀ v ∈ ltV s.fin p.fin, v.oneCell' = true := jbx _ _
 have oB : ∀ v ∈ ltV s.new p.new, v.oneCell' = true := jbx _ _
 have oC : ∀ v ∈ cmV s.now p.now, v.oneCell' = true := jcc _ _
 have on : ∀ v ∈ cmV s.nxt p.nxt, v.oneCell' = true := jcc _ _
 obtain ⟨FS, hFS⟩ : ∃ x, apS s d now = x := ⟨_, rfl⟩
 rw [hFS] at K9 ⊢
 obtain ⟨many, hmany⟩ : ∃ x, sgN d.bits = x := ⟨_, rfl⟩
 rw [hmany] at K2 K7 K8 K9 hsg
 obtain ⟨bt, hbt⟩ : ∃ x, betR (merN d) (merN s.best) = x := ⟨_, rfl⟩
 rw [hbt] at K3 K7 K8 K9
 obtain ⟨an, han⟩ : ∃ x, decide (s.new.s < d.l.s) = x := ⟨_, rfl⟩
 rw [han] at K5 K7 K8 K9
 obtain ⟨fz, hfz⟩ : ∃ x, fzB (apT s d) d = x := ⟨_, rfl⟩
 rw [hfz] at K7 K9
 obtain ⟨LT, hLT⟩ : ∃ L, stV (tkS (apT s d) d) (tkP (apT s d) d (apP s d p q) q) = L := ⟨_, rfl⟩
 rw [hLT] at K8 K9 lT oT
 obtain ⟨XA, hXA⟩ : ∃ L, ltV s.fin p.fin = L := ⟨_, rfl⟩
 obtain ⟨XB, hXB⟩ : ∃ L, ltV s.new p.new = L := ⟨_, rfl⟩
 obtain ⟨XC, hXC⟩ : ∃ L, cmV s.now p.now = L := ⟨_, rfl⟩
 obtain ⟨XD, hXD⟩ : ∃ L, cmV s.nxt p.nxt = L := ⟨_, rfl⟩
 obtain ⟨XE, hXE⟩ : ∃ L, upV s.best p.best = L := ⟨_, rfl⟩
 obtain ⟨LU, hLU⟩ : ∃ L, upV d q = L := ⟨_, rfl⟩
 obtain ⟨UL, hUL⟩ : ∃ L, ltV d.l q.l = L := ⟨_, rfl⟩
 obtain ⟨bh, hbh⟩ : ∃ b, s.has = b := ⟨_, rfl⟩
 obtain ⟨nl, hnl⟩ : ∃ b, s.last = b := ⟨_, rfl⟩
 obtain ⟨nt, hnt⟩ : ∃ b, s.this = b := ⟨_, rfl⟩
 obtain ⟨bf, hbf⟩ : ∃ b, s.forced = b := ⟨_, rfl⟩
 rw [hXA] at K1 K7 K8 K9 h9 oA ⊢
 rw [hXB] at K1 K5 K6 K7 K8 K9 h9 oB ⊢
 rw [hXC] at K1 K7 K8 K9 h9 oC ⊢
 rw [hXD] at K1 K7 K8 K9 h9 on ⊢
 rw [hXE] at K1 K3 K4 K7 K8 K9 h9 oE ⊢
 rw [hLU] at K1 K2 K3 K4 K7 K8 K9 ul oU HLn ⊢
 rw [hUL] at K5 K6 K7 K8 K9 ul o9 HLn
 rw [hbh, hnl, hnt, hbf] at K1 ⊢
 rw [hbh] at K7 K8 K9
 rw [hnl] at K7 K8 K9 hl
 rw [hnt] at K7 K8 K9 ht
 rw [hbf] at K7 K8 K9
 clear KC eS eQ eT eF b2 b5 bM hFS hmany hbt han hfz hLT hXA hXB hXC hXD hXE hLU hUL hbh hnl hnt hbf hL hn hps hp hs0 hd zs zd he
 obtain ⟨XX, hXX⟩ : ∃ L, (if (!bh || bt) = true then LU else XE) = L := ⟨_, rfl⟩
 obtain ⟨en, hen⟩ : ∃ b, decide ((max nl (max nt (many : Int))).tdiv 2 < (many : Int)) = b := ⟨_, rfl⟩
 rw [hXX, hen] at K7 K8 K9
 obtain ⟨XN, hXN⟩ : ∃ L, (if (en && an) = true then UL else XB) = L := ⟨_, rfl⟩
 rw [hXN] at K7 K8 K9
 obtain ⟨M, hM⟩ : ∃ m, max nt (many : Int) = m := ⟨_, rfl⟩
 rw [hM] at K7 K8 K9 hen
 obtain ⟨L0, hL0⟩ : ∃ L, st9 XA XB XC XD XE bh nl nt bf = L := ⟨_, rfl⟩
 have H0 : Hid _ := hL0
 rw [hL0] at K1 ⊢
 obtain ⟨B1, xS, xU, xZ, hs⟩ := box3 w (.cells L0.toArray 38) (.cells LU.toArray 33) (.cells zSA 38)
 obtain ⟨z, hz⟩ : ∃ z, w.heap.size = z := ⟨_, rfl⟩
 have HZ : Hid (w.heap.size = z) := hz
 rw [hz] at B1 xS xU xZ hs K1 K9
 have l0 : Hid (L0.length = 51) := show _ by rw [← hL0]; exact jaz h9
 have H9 : Hid (_ ∧ _ ∧ _ ∧ _ ∧ _) := ⟨h9, hXX, hXN, hen, hM⟩
 have HO : Hid (_ ∧ _ ∧ _ ∧ _ ∧ _ ∧ _ ∧ _ ∧ _) := ⟨oU, oE, o9, oA, oB, oC, on, hsg⟩
 clear hL0 h9 oU oE o9 oA oB oC on
 have RS := jal xS
 have RU := jal xU
 go_enter Tryz.func10, Tryz.ntmps10
 go_wp2_with (first | (refine wpList_load_mid rfl 38 _ rfl z 0 rfl _ _ RS Tryz.underlying38 rfl (by rw [l0.out]; kernel_rfl) ?_) | (refine jab (by rfl) 38 _ rfl z 0 rfl _ _ RS Tryz.underlying38 rfl (by rw [l0.out]; kernel_rfl) ?_) | (refine wpList_load_mid rfl 33 _ rfl (z + 1) 0 rfl _ _ RU Tryz.underlying33 rfl (by rw [HLn.out.1]; kernel_rfl) ?_) | (refine jab (by rfl) 33 _ rfl (z + 1) 0 rfl _ _ RU Tryz.underlying33 rfl (by rw [HLn.out.1]; kernel_rfl) ?_))
 refine (K1 _ B1 (by omega)).mono ?_
 rintro e V1 ⟨rfl, C⟩
 have x1 : Bq z 38 L0.toArray V1 := (C.block z (by omega)).trans xS
 have y1 : Bq (z + 1) 33 LU.toArray V1 := (C.block (z + 1) (by omega)).trans xU
 have z1 : Bq (z + 2) 38 _ V1 := (C.block (z + 2) (by omega)).trans xZ
 have HB1 : Hid (Below z w V1) := jaa B1 (by omega) C
 have s1 : z + 3 ≤ V1.heap.size := by have := C.size; omega
 clear C K1 RS RU xS xU xZ hs B1 hz
 have RU := jal y1
 go_wp2_with (first | (refine wpList_load_mid rfl 33 _ rfl (z + 1) 0 rfl _ _ RU Tryz.underlying33 rfl (by rw [HLn.out.1]; kernel_rfl) ?_) | (refine jab (by rfl) 33 _ rfl (z + 1) 0 rfl _ _ RU Tryz.underlying33 rfl (by rw [HLn.out.1]; kernel_rfl) ?_))
 refine (K2 _).mono ?_
 rintro e V2 ⟨rfl, C⟩
 have x2 := x1.below C
 have y2 : Bq (z + 1) 33 LU.toArray V2 := y1.below C
 have z2 := z1.below C
 have s2 : z + 3 ≤ V2.heap.size := by have := C.size; omega
 have HB2 : Hid (Below z w V2) := jaa HB1.out (by omega) C
 clear C x1 y1 z1 s1 HB1 RU K2
 rw [← H0.out] at x2
 have HZ2 : Hid _ := z2
 clear z2
 have c47 : V2.cell? ⟨z, 47, none⟩ = some (.bool bh) := jaf x2 47 _ (st9_h H9.out.1)
 cases bh with
 | false =>
  have QE := jbl (jac x2 22 XE (st9_E H9.out.1)) (by omega)
  have QU := jbl (jal y2) (by omega)
  have k47 := c47
  have eK : (if true = true then LU.toArray else XE.toArray) = XX.toArray := by rw [← H9.out.2.1]; rfl
  have K4n := K4 true
  rw [eK] at K4n
  have c4 := jae (w := V2) K4n
  have lXX : XX.length = 25 := by rw [← H9.out.2.1]; split; exact HLn.out.1; exact H9.out.1.e
  have oXX : ∀ v ∈ XX, v.oneCell' = true := by rw [← H9.out.2.1]; split; exact HO.out.1; exact HO.out.2.1
  have BV := HB2.out
  have hzV : z < V2.heap.size := by omega
  have lE : Hid (XE.length = 25) := show _ from H9.out.1.e
  clear eK
  go_wp2_with fail
  refine jar 14 (by kernel_rfl) (by kernel_rfl) ?_
  simp only [List.take_succ_cons, List.take_zero, List.drop_succ_cons, List.drop_zero]
  refine Stp.out ?_
  iterate 1 (refine jag (fun K hK => ?_); go_simp; refine hK _ ?_; clear hK K)
  refine jag (fun K hK => ?_)
  go_simp
  apply Exists.intro
  refine ⟨fun r => ?_, hK _ ?_⟩
  ·have cW := ((below_regrown V2 r.d r.os).cell hzV).trans k47
   rw [cW]
   exact ⟨rfl, rfl⟩
  clear hK K
  iterate 2 (refine jag (fun K hK => ?_); go_simp; refine hK _ ?_; clear hK K)
  iterate 5 (refine jag (fun K hK => ?_); go_simp; refine hK _ ?_; clear hK K)
  refine jak (by kernel_rfl) 33 _ rfl _ _ rfl _ _ QU Tryz.underlying33 rfl (by rw [HLn.out.1]; kernel_rfl) ?_
  iterate 1 (refine jag (fun K hK => ?_); go_simp; refine hK _ ?_; clear hK K)
  refine jak (by kernel_rfl) 33 _ rfl _ _ rfl _ _ QE Tryz.underlying33 rfl (by rw [lE.out]; kernel_rfl) ?_
  refine jag (fun K hK => ?_)
  go_simp
  apply Exists.intro
  refine ⟨fun _ => ?_, hK _ ?_⟩
  exact c4 _ _
  clear hK K
  iterate 1 (refine jag (fun K hK => ?_); go_simp; refine hK _ ?_; clear hK K)
  refine ⟨wpQuiet_nil ?_⟩
  intro V3 hV3
  have cB3 : Below V2.heap.size V2 V3 := by
   obtain ⟨p, rfl⟩ := hV3
   exact below_regrown _ _ _
  have B3 : Below z w V3 := by
   obtain ⟨p, rfl⟩ := hV3
   exact jaa BV (by have := BV.size; omega) (below_regrown V2 p.d p.os)
  clear hV3
  have C := cB3
  have x3 := x2.below C
  have y3 : Bq (z + 1) 33 LU.toArray V3 := y2.below C
  have HZ3 : Hid (Bq (z + 2) 38 zSA V3) := show _ from Bq.below (show Bq (z + 2) 38 zSA V2 from HZ2.out) C
  have s3 : z + 3 ≤ V3.heap.size := by have := C.size; omega
  have HB3 : Hid (Below z w V3) := jaa HB2.out (by omega) C
  clear C cB3 BV B3 QE QU k47 c47 c4 hzV K3 K4 K4n lE x2 y2 HZ2 s2 HB2
  have ht : V3.there z 22 XX.length := jai x3 (by rw [lXX, jaz H9.out.1]; omega)
  go_wp2_with (first | (refine jat rfl rfl 33 _ _ rfl z 22 XX rfl rfl ht (by rw [lXX]; kernel_rfl) oXX ?_; refine Stp.out ?_))
  refine ⟨?_⟩
  have x4 := jcw H9.out.1 lXX x3
  have y4 : Bq (z + 1) 33 LU.toArray (V3.setCells z 22 XX) := (jad (by omega) _ _ _).trans y3
  have HZ4 : Hid (Bq (z + 2) 38 zSA (V3.setCells z 22 XX)) := show _ from (jad (by omega) _ _ _).trans HZ3.out
  have s4 : z + 3 ≤ (V3.setCells z 22 XX).heap.size := by rw [jaj]; exact s3
  have HB4 : Hid (Below z w (V3.setCells z 22 XX)) := jaq HB3.out (Nat.le_refl _) _
  obtain ⟨V4, hV4⟩ : ∃ W, V3.setCells z 22 XX = W := ⟨_, rfl⟩
  rw [hV4] at x4 y4 HZ4 s4 HB4 ⊢
  clear hV4 x3 y3 HZ3 s3 HB3
  clear ht
  have h9e : L9 XA XB XC XD XX := ⟨H9.out.1.a, H9.out.1.b, H9.out.1.c, H9.out.1.d, lXX⟩
  have c47 : V4.cell? ⟨z, 47, none⟩ = some (.bool false) := jaf x4 47 _ (st9_h h9e)
  have c48 : V4.cell? ⟨z, 48, none⟩ = some (.int .i64 nl) := jaf x4 48 _ (st9_l h9e)
  have c49 : V4.cell? ⟨z, 49, none⟩ = some (.int .i64 nt) := jaf x4 49 _ (st9_t h9e)
  have f47 : V4.frozen? ⟨z, 47, none⟩ = false := Bq.fr x4 47
  have f49 : V4.frozen? ⟨z, 49, none⟩ = false := Bq.fr x4 49
  have x5 := st9_putt h9e M (jcv h9e true x4)
  have y5 : Bq (z + 1) 33 LU.toArray ((V4.setCell ⟨z, 47, none⟩ (.bool true)).setCell ⟨z, 49, none⟩ (.int .i64 M)) := (Below.heap_setCell _ _ _ _ (show z + 1 ≠ z by omega)).trans ((Below.heap_setCell _ _ _ _ (show z + 1 ≠ z by omega)).trans y4)
  have HZ5 : Hid (Bq (z + 2) 38 zSA ((V4.setCell ⟨z, 47, none⟩ (.bool true)).setCell ⟨z, 49, none⟩ (.int .i64 M))) := show _ from (Below.heap_setCell _ _ _ _ (show z + 2 ≠ z by omega)).trans ((Below.heap_setCell _ _ _ _ (show z + 2 ≠ z by omega)).trans HZ4.out)
  have s5 : z + 3 ≤ ((V4.setCell ⟨z, 47, none⟩ (.bool true)).setCell ⟨z, 49, none⟩ (.int .i64 M)).heap.size := by rw [jca, jca]; exact s4
  have HB5 : Hid (Below z w ((V4.setCell ⟨z, 47, none⟩ (.bool true)).setCell ⟨z, 49, none⟩ (.int .i64 M))) := show _ from (HB4.out.setCell (p := ⟨z, 47, none⟩) (Nat.le_refl _) _).setCell (p := ⟨z, 49, none⟩) (Nat.le_refl _) _
  have H5 : Hid (_ ∧ _ ∧ _) := ⟨x5, y5, s5⟩
  have hM := H9.out.2.2.2.2
  have hen := H9.out.2.2.2.1
  have hml := HO.out.2.2.2.2.2.2.2
  have wd : IntKind.i64.wrap ((max nl M).tdiv 2) = (max nl M).tdiv 2 := by
   have : 0 ≤ M := by omega
   rw [IntKind.wrap_i64, Int.tdiv_eq_ediv_of_nonneg (by omega)]
   omega
  clear x4 y4 HZ4 s4 HB4 x5 y5 s5
  go_wp2_with fail
  obtain ⟨x5, y5, s5⟩ := H5.out
  obtain ⟨V5, hV5⟩ : ∃ V, ((V4.setCell ⟨z, 47, none⟩ (.bool true)).setCell ⟨z, 49, none⟩ (.int .i64 M)) = V := ⟨_, rfl⟩
  rw [hV5] at x5 y5 HZ5 s5 HB5 ⊢
  clear hV5 H5 hM hen wd c47 c48 c49 f47 f49
  have hXN := H9.out.2.2.1
  have QL := jbl (jac y5 0 UL ul) (by omega)
  have QB := jbl (jac x5 9 XB (st9_B h9e)) (by omega)
  have lB : Hid (XB.length = 9) := show _ from H9.out.1.b
  have BV := HB5.out
  cases en with
  | false =>
   have eN : (if false = true then UL.toArray else XB.toArray) = XN.toArray := by rw [← hXN]; rfl
   have K6n := K6 false
   rw [eN] at K6n
   have c6 := jae (w := V5) K6n
   have lXN : XN.length = 9 := by rw [← hXN]; split; exact HLn.out.2; exact H9.out.1.b
   have oXN : ∀ v ∈ XN, v.oneCell' = true := by rw [← hXN]; split; exact HO.out.2.2.1; exact HO.out.2.2.2.2.1
   have h9n : L9 XA XN XC XD XX := ⟨h9e.a, lXN, h9e.c, h9e.d, h9e.e⟩
   clear eN hXN
   refine jar 14 (by kernel_rfl) (by kernel_rfl) ?_
   simp only [List.take_succ_cons, List.take_zero, List.drop_succ_cons, List.drop_zero]
   refine Stp.out ?_
   iterate 2 (refine jag (fun K hK => ?_); go_simp; refine hK _ ?_; clear hK K)
   iterate 5 (refine jag (fun K hK => ?_); go_simp; refine hK _ ?_; clear hK K)
   iterate 2 (refine jag (fun K hK => ?_); go_simp; refine hK _ ?_; clear hK K)
   refine jak (by kernel_rfl) 29 _ rfl _ _ rfl _ _ QL Tryz.underlying29 rfl (by rw [HLn.out.2]; kernel_rfl) ?_
   iterate 1 (refine jag (fun K hK => ?_); go_simp; refine hK _ ?_; clear hK K)
   refine jak (by kernel_rfl) 29 _ rfl _ _ rfl _ _ QB Tryz.underlying29 rfl (by rw [lB.out]; kernel_rfl) ?_
   refine jag (fun K hK => ?_)
   go_simp
   apply Exists.intro
   refine ⟨fun _ => ?_, hK _ ?_⟩
   exact c6 _ _
   clear hK K
   iterate 1 (refine jag (fun K hK => ?_); go_simp; refine hK _ ?_; clear hK K)
   refine ⟨wpQuiet_nil ?_⟩
   intro V6 hV6
   have cB6 : Below V5.heap.size V5 V6 := by
    obtain ⟨p, rfl⟩ := hV6
    exact below_regrown _ _ _
   have B6 : Below z w V6 := by
    obtain ⟨p, rfl⟩ := hV6
    exact jaa BV (by have := BV.size; omega) (below_regrown V5 p.d p.os)
   clear hV6
   have C := cB6
   have x6 := x5.below C
   have y6 : Bq (z + 1) 33 LU.toArray V6 := y5.below C
   have HZ6 : Hid (Bq (z + 2) 38 zSA V6) := show _ from Bq.below (show Bq (z + 2) 38 zSA V5 from HZ5.out) C
   have s6 : z + 3 ≤ V6.heap.size := by have := C.size; omega
   have HB6 : Hid (Below z w V6) := jaa HB5.out (by omega) C
   clear C cB6 BV B6 QL QB c6 K5 K6 K6n lB x5 y5 HZ5 s5 HB5
   have ht : V6.there z 9 XN.length := jai x6 (by rw [lXN, jaz h9e]; omega)
   go_wp2_with (first | (refine jat rfl rfl 29 _ _ rfl z 9 XN rfl rfl ht (by rw [lXN]; kernel_rfl) oXN ?_; refine Stp.out ?_))
   refine ⟨?_⟩
   have x7 := jdp h9e lXN x6
   have y7 : Bq (z + 1) 33 LU.toArray (V6.setCells z 9 XN) := (jad (by omega) _ _ _).trans y6
   have HZ7 : Hid (Bq (z + 2) 38 zSA (V6.setCells z 9 XN)) := show _ from (jad (by omega) _ _ _).trans HZ6.out
   have s7 : z + 3 ≤ (V6.setCells z 9 XN).heap.size := by rw [jaj]; exact s6
   have HB7 : Hid (Below z w (V6.setCells z 9 XN)) := jaq HB6.out (Nat.le_refl _) _
   obtain ⟨V7, hV7⟩ : ∃ W, V6.setCells z 9 XN = W := ⟨_, rfl⟩
   rw [hV7] at x7 y7 HZ7 s7 HB7 ⊢
   clear hV7 x6 y6 HZ6 s6 HB6
   clear ht
   have lM : Hid ((st9 XA XN XC XD XX true nl M bf).toArray.size = 51) := show _ by rw [List.size_toArray]; exact jaz h9n
   have RU := jal y7
   have xM := x7
   go_wp2_with (first | (refine wpList_load_row rfl 38 _ rfl z rfl _ _ _ _ xM Tryz.underlying38 rfl (by rw [lM.out]; kernel_rfl) ?_) | (refine wpList_load_mid rfl 33 _ rfl (z + 1) 0 rfl _ _ RU Tryz.underlying33 rfl (by rw [HLn.out.1]; kernel_rfl) ?_) | (refine jab (by rfl) 33 _ rfl (z + 1) 0 rfl _ _ RU Tryz.underlying33 rfl (by rw [HLn.out.1]; kernel_rfl) ?_))
   refine (K7 _).mono ?_
   rintro e V8 ⟨rfl, C⟩
   clear xM RU
   have x8 := x7.below C
   have y8 : Bq (z + 1) 33 LU.toArray V8 := y7.below C
   have HZ8 : Hid (Bq (z + 2) 38 zSA V8) := show _ from Bq.below (show Bq (z + 2) 38 zSA V7 from HZ7.out) C
   have s8 : z + 3 ≤ V8.heap.size := by have := C.size; omega
   have HB8 : Hid (Below z w V8) := jaa HB7.out (by omega) C
   clear C x7 y7 HZ7 s7 HB7
   clear K7
   cases fz with
   | false =>
    rw [if_neg (by decide)] at K9
    clear K8
    have KD := K9 V8 HB8.out (by omega)
    have HYZ : Hid (Bq (z + 2) 38 zSA V8) := show _ from HZ8.out
    have HS : Hid (z + 3 ≤ V8.heap.size) := show _ from s8
    clear K9 y8 HZ8 s8
    have xL := x8
    clear x8
    go_wp2_with (first | (refine wpList_load_row rfl 38 _ rfl z rfl _ _ _ _ xL Tryz.underlying38 rfl (by rw [lM.out]; kernel_rfl) ?_))
    refine KD.mono ?_
    rintro e V20 ⟨⟨q7, rfl, G7⟩, C⟩
    have y7 : Bq (z + 2) 38 zSA V20 := Bq.below (show Bq (z + 2) 38 zSA V8 from HYZ.out) C
    have BX : Below z w V20 := jaa HB8.out (by have := HS.out; omega) C
    have hQ : Hid ((stV FS q7).toArray.size = 51) := show _ from rfl
    have hone := jbz FS q7
    obtain ⟨F9, hF9⟩ : ∃ F, (stV FS q7).toArray = F := ⟨_, rfl⟩
    have HF : Hid (_ ∧ _ ∧ _ ∧ _) := ⟨BX, G7, hF9, jba hone⟩
    rw [hF9] at hQ ⊢
    clear BX G7 hF9 hone C KD HB8 HYZ xL
    go_wp2_with (refine jao rfl rfl 38 _ _ rfl (z + 2) _ rfl rfl 38 _ y7 (by rw [hQ.out]; kernel_rfl) (by rw [hQ.out]; rfl) (by rw [← HF.out.2.2.1]; exact HF.out.2.2.2) ?_)
    obtain ⟨BX, G7, hF9, -⟩ := HF.out
    refine bodyPost_ret (jbd rfl _ _ (z + 2) 38 _ (0, 0) _ rfl (Bq.row (show Bq (z + 2) 38 _ _ from y7) F9) Tryz.underlying38 rfl (by rw [hQ.out]; kernel_rfl) (.int .i64 0) rfl) rfl ⟨⟨q7, by rw [← hF9], ?_⟩, ?_⟩
    ·exact (G7.keep (by rw [size_setRow]; exact Nat.le_refl _) fun b hb _ => setRow_other _ _ _ _ (by have := HS.out; omega)).mono (by have := HZ.out; have := HS.out; omega)
    ·rw [HZ.out]
     exact jas BX (by omega) F9
   | true =>
    rw [if_pos rfl] at K9
    have RU := jal y8
    have xM := x8
    go_wp2_with (first | (refine wpList_load_row rfl 38 _ rfl z rfl _ _ _ _ xM Tryz.underlying38 rfl (by rw [lM.out]; kernel_rfl) ?_) | (refine wpList_load_mid rfl 33 _ rfl (z + 1) 0 rfl _ _ RU Tryz.underlying33 rfl (by rw [HLn.out.1]; kernel_rfl) ?_) | (refine jab (by rfl) 33 _ rfl (z + 1) 0 rfl _ _ RU Tryz.underlying33 rfl (by rw [HLn.out.1]; kernel_rfl) ?_))
    refine (K8 _).mono ?_
    rintro e V9 ⟨rfl, C⟩
    clear xM RU
    have x9 := x8.below C
    have y9 : Bq (z + 1) 33 LU.toArray V9 := y8.below C
    have HZ9 : Hid (Bq (z + 2) 38 zSA V9) := show _ from Bq.below (show Bq (z + 2) 38 zSA V8 from HZ8.out) C
    have s9 : z + 3 ≤ V9.heap.size := by have := C.size; omega
    have HB9 : Hid (Below z w V9) := jaa HB8.out (by omega) C
    clear C x8 y8 HZ8 s8 HB8
    clear K8
    have lTa : Hid (LT.toArray.size = 51) := show _ by rw [List.size_toArray]; exact lT.out
    have xM := x9
    go_wp2_with (first | (refine jao rfl rfl 38 _ _ rfl z _ rfl rfl 38 _ xM (by rw [lTa.out]; kernel_rfl) (by rw [lTa.out]; exact lM.out) oT.out ?_; refine Stp.out ?_))
    refine ⟨?_⟩
    have x10 := Bq.row xM LT.toArray
    have y10 := y9.rowOther (show z + 1 ≠ z by omega) LT.toArray
    have HZ10 : Hid (Bq (z + 2) 38 zSA (V9.setRow z LT.toArray)) := show _ from Bq.rowOther (show Bq (z + 2) 38 zSA V9 from HZ9.out) (show z + 2 ≠ z by omega) LT.toArray
    have s10 : z + 3 ≤ (V9.setRow z LT.toArray).heap.size := by rw [size_setRow]; exact s9
    have HB10 : Hid (Below z w (V9.setRow z LT.toArray)) := jas HB9.out (Nat.le_refl _) _
    obtain ⟨V10, hV10⟩ : ∃ V, V9.setRow z LT.toArray = V := ⟨_, rfl⟩
    rw [hV10] at x10 y10 HZ10 s10 HB10 ⊢
    clear hV10 xM x9 y9 HZ9 s9 HB9 lM
    have KD := K9 V10 HB10.out (by omega)
    have HYZ : Hid (Bq (z + 2) 38 zSA V10) := show _ from HZ10.out
    have HS : Hid (z + 3 ≤ V10.heap.size) := show _ from s10
    clear K9 y10 HZ10 s10
    have xL := x10
    clear x10
    go_wp2_with (first | (refine wpList_load_row rfl 38 _ rfl z rfl _ _ _ _ xL Tryz.underlying38 rfl (by rw [lTa.out]; kernel_rfl) ?_))
    refine KD.mono ?_
    rintro e V20 ⟨⟨q7, rfl, G7⟩, C⟩
    have y7 : Bq (z + 2) 38 zSA V20 := Bq.below (show Bq (z + 2) 38 zSA V10 from HYZ.out) C
    have BX : Below z w V20 := jaa HB10.out (by have := HS.out; omega) C
    have hQ : Hid ((stV FS q7).toArray.size = 51) := show _ from rfl
    have hone := jbz FS q7
    obtain ⟨F9, hF9⟩ : ∃ F, (stV FS q7).toArray = F := ⟨_, rfl⟩
    have HF : Hid (_ ∧ _ ∧ _ ∧ _) := ⟨BX, G7, hF9, jba hone⟩
    rw [hF9] at hQ ⊢
    clear BX G7 hF9 hone C KD HB10 HYZ xL
    go_wp2_with (refine jao rfl rfl 38 _ _ rfl (z + 2) _ rfl rfl 38 _ y7 (by rw [hQ.out]; kernel_rfl) (by rw [hQ.out]; rfl) (by rw [← HF.out.2.2.1]; exact HF.out.2.2.2) ?_)
    obtain ⟨BX, G7, hF9, -⟩ := HF.out
    refine bodyPost_ret (jbd rfl _ _ (z + 2) 38 _ (0, 0) _ rfl (Bq.row (show Bq (z + 2) 38 _ _ from y7) F9) Tryz.underlying38 rfl (by rw [hQ.out]; kernel_rfl) (.int .i64 0) rfl) rfl ⟨⟨q7, by rw [← hF9], ?_⟩, ?_⟩
    ·exact (G7.keep (by rw [size_setRow]; exact Nat.le_refl _) fun b hb _ => setRow_other _ _ _ _ (by have := HS.out; omega)).mono (by have := HZ.out; have := HS.out; omega)
    ·rw [HZ.out]
     exact jas BX (by omega) F9
  | true =>
   have eN : (if an = true then UL.toArray else XB.toArray) = XN.toArray := by rw [← hXN]; cases an <;> rfl
   have K6n := K6 an
   rw [eN] at K6n
   have c5 := jae (w := V5) K5
   have c6 := jae (w := V5) K6n
   have lXN : XN.length = 9 := by rw [← hXN]; split; exact HLn.out.2; exact H9.out.1.b
   have oXN : ∀ v ∈ XN, v.oneCell' = true := by rw [← hXN]; split; exact HO.out.2.2.1; exact HO.out.2.2.2.2.1
   have h9n : L9 XA XN XC XD XX := ⟨h9e.a, lXN, h9e.c, h9e.d, h9e.e⟩
   clear eN hXN
   refine jar 14 (by kernel_rfl) (by kernel_rfl) ?_
   simp only [List.take_succ_cons, List.take_zero, List.drop_succ_cons, List.drop_zero]
   refine Stp.out ?_
   iterate 2 (refine jag (fun K hK => ?_); go_simp; refine hK _ ?_; clear hK K)
   iterate 1 (refine jag (fun K hK => ?_); go_simp; refine hK _ ?_; clear hK K)
   refine jak (by kernel_rfl) 29 _ rfl _ _ rfl _ _ QL Tryz.underlying29 rfl (by rw [HLn.out.2]; kernel_rfl) ?_
   iterate 1 (refine jag (fun K hK => ?_); go_simp; refine hK _ ?_; clear hK K)
   refine jak (by kernel_rfl) 29 _ rfl _ _ rfl _ _ QB Tryz.underlying29 rfl (by rw [lB.out]; kernel_rfl) ?_
   refine jag (fun K hK => ?_)
   go_simp
   apply Exists.intro
   refine ⟨fun _ => ?_, hK _ ?_⟩
   exact c5 _ _
   clear hK K
   iterate 2 (refine jag (fun K hK => ?_); go_simp; refine hK _ ?_; clear hK K)
   refine jak (by kernel_rfl) 29 _ rfl _ _ rfl _ _ QL Tryz.underlying29 rfl (by rw [HLn.out.2]; kernel_rfl) ?_
   iterate 1 (refine jag (fun K hK => ?_); go_simp; refine hK _ ?_; clear hK K)
   refine jak (by kernel_rfl) 29 _ rfl _ _ rfl _ _ QB Tryz.underlying29 rfl (by rw [lB.out]; kernel_rfl) ?_
   refine jag (fun K hK => ?_)
   go_simp
   apply Exists.intro
   refine ⟨fun _ => ?_, hK _ ?_⟩
   exact c6 _ _
   clear hK K
   iterate 1 (refine jag (fun K hK => ?_); go_simp; refine hK _ ?_; clear hK K)
   refine ⟨wpQuiet_nil ?_⟩
   intro V6 hV6
   have cB6 : Below V5.heap.size V5 V6 := by
    obtain ⟨p, rfl⟩ := hV6
    exact below_regrown _ _ _
   have B6 : Below z w V6 := by
    obtain ⟨p, rfl⟩ := hV6
    exact jaa BV (by have := BV.size; omega) (below_regrown V5 p.d p.os)
   clear hV6
   have C := cB6
   have x6 := x5.below C
   have y6 : Bq (z + 1) 33 LU.toArray V6 := y5.below C
   have HZ6 : Hid (Bq (z + 2) 38 zSA V6) := show _ from Bq.below (show Bq (z + 2) 38 zSA V5 from HZ5.out) C
   have s6 : z + 3 ≤ V6.heap.size := by have := C.size; omega
   have HB6 : Hid (Below z w V6) := jaa HB5.out (by omega) C
   clear C cB6 BV B6 QL QB c5 c6 K5 K6 K6n lB x5 y5 HZ5 s5 HB5
   have ht : V6.there z 9 XN.length := jai x6 (by rw [lXN, jaz h9e]; omega)
   go_wp2_with (first | (refine jat rfl rfl 29 _ _ rfl z 9 XN rfl rfl ht (by rw [lXN]; kernel_rfl) oXN ?_; refine Stp.out ?_))
   refine ⟨?_⟩
   have x7 := jdp h9e lXN x6
   have y7 : Bq (z + 1) 33 LU.toArray (V6.setCells z 9 XN) := (jad (by omega) _ _ _).trans y6
   have HZ7 : Hid (Bq (z + 2) 38 zSA (V6.setCells z 9 XN)) := show _ from (jad (by omega) _ _ _).trans HZ6.out
   have s7 : z + 3 ≤ (V6.setCells z 9 XN).heap.size := by rw [jaj]; exact s6
   have HB7 : Hid (Below z w (V6.setCells z 9 XN)) := jaq HB6.out (Nat.le_refl _) _
   obtain ⟨V7, hV7⟩ : ∃ W, V6.setCells z 9 XN = W := ⟨_, rfl⟩
   rw [hV7] at x7 y7 HZ7 s7 HB7 ⊢
   clear hV7 x6 y6 HZ6 s6 HB6
   clear ht
   have lM : Hid ((st9 XA XN XC XD XX true nl M bf).toArray.size = 51) := show _ by rw [List.size_toArray]; exact jaz h9n
   have RU := jal y7
   have xM := x7
   go_wp2_with (first | (refine wpList_load_row rfl 38 _ rfl z rfl _ _ _ _ xM Tryz.underlying38 rfl (by rw [lM.out]; kernel_rfl) ?_) | (refine wpList_load_mid rfl 33 _ rfl (z + 1) 0 rfl _ _ RU Tryz.underlying33 rfl (by rw [HLn.out.1]; kernel_rfl) ?_) | (refine jab (by rfl) 33 _ rfl (z + 1) 0 rfl _ _ RU Tryz.underlying33 rfl (by rw [HLn.out.1]; kernel_rfl) ?_))
   refine (K7 _).mono ?_
   rintro e V8 ⟨rfl, C⟩
   clear xM RU
   have x8 := x7.below C
   have y8 : Bq (z + 1) 33 LU.toArray V8 := y7.below C
   have HZ8 : Hid (Bq (z + 2) 38 zSA V8) := show _ from Bq.below (show Bq (z + 2) 38 zSA V7 from HZ7.out) C
   have s8 : z + 3 ≤ V8.heap.size := by have := C.size; omega
   have HB8 : Hid (Below z w V8) := jaa HB7.out (by omega) C
   clear C x7 y7 HZ7 s7 HB7
   clear K7
   cases fz with
   | false =>
    rw [if_neg (by decide)] at K9
    clear K8
    have KD := K9 V8 HB8.out (by omega)
    have HYZ : Hid (Bq (z + 2) 38 zSA V8) := show _ from HZ8.out
    have HS : Hid (z + 3 ≤ V8.heap.size) := show _ from s8
    clear K9 y8 HZ8 s8
    have xL := x8
    clear x8
    go_wp2_with (first | (refine wpList_load_row rfl 38 _ rfl z rfl _ _ _ _ xL Tryz.underlying38 rfl (by rw [lM.out]; kernel_rfl) ?_))
    refine KD.mono ?_
    rintro e V20 ⟨⟨q7, rfl, G7⟩, C⟩
    have y7 : Bq (z + 2) 38 zSA V20 := Bq.below (show Bq (z + 2) 38 zSA V8 from HYZ.out) C
    have BX : Below z w V20 := jaa HB8.out (by have := HS.out; omega) C
    have hQ : Hid ((stV FS q7).toArray.size = 51) := show _ from rfl
    have hone := jbz FS q7
    obtain ⟨F9, hF9⟩ : ∃ F, (stV FS q7).toArray = F := ⟨_, rfl⟩
    have HF : Hid (_ ∧ _ ∧ _ ∧ _) := ⟨BX, G7, hF9, jba hone⟩
    rw [hF9] at hQ ⊢
    clear BX G7 hF9 hone C KD HB8 HYZ xL
    go_wp2_with (refine jao rfl rfl 38 _ _ rfl (z + 2) _ rfl rfl 38 _ y7 (by rw [hQ.out]; kernel_rfl) (by rw [hQ.out]; rfl) (by rw [← HF.out.2.2.1]; exact HF.out.2.2.2) ?_)
    obtain ⟨BX, G7, hF9, -⟩ := HF.out
    refine bodyPost_ret (jbd rfl _ _ (z + 2) 38 _ (0, 0) _ rfl (Bq.row (show Bq (z + 2) 38 _ _ from y7) F9) Tryz.underlying38 rfl (by rw [hQ.out]; kernel_rfl) (.int .i64 0) rfl) rfl ⟨⟨q7, by rw [← hF9], ?_⟩, ?_⟩
    ·exact (G7.keep (by rw [size_setRow]; exact Nat.le_refl _) fun b hb _ => setRow_other _ _ _ _ (by have := HS.out; omega)).mono (by have := HZ.out; have := HS.out; omega)
    ·rw [HZ.out]
     exact jas BX (by omega) F9
   | true =>
    rw [if_pos rfl] at K9
    have RU := jal y8
    have xM := x8
    go_wp2_with (first | (refine wpList_load_row rfl 38 _ rfl z rfl _ _ _ _ xM Tryz.underlying38 rfl (by rw [lM.out]; kernel_rfl) ?_) | (refine wpList_load_mid rfl 33 _ rfl (z + 1) 0 rfl _ _ RU Tryz.underlying33 rfl (by rw [HLn.out.1]; kernel_rfl) ?_) | (refine jab (by rfl) 33 _ rfl (z + 1) 0 rfl _ _ RU Tryz.underlying33 rfl (by rw [HLn.out.1]; kernel_rfl) ?_))
    refine (K8 _).mono ?_
    rintro e V9 ⟨rfl, C⟩
    clear xM RU
    have x9 := x8.below C
    have y9 : Bq (z + 1) 33 LU.toArray V9 := y8.below C
    have HZ9 : Hid (Bq (z + 2) 38 zSA V9) := show _ from Bq.below (show Bq (z + 2) 38 zSA V8 from HZ8.out) C
    have s9 : z + 3 ≤ V9.heap.size := by have := C.size; omega
    have HB9 : Hid (Below z w V9) := jaa HB8.out (by omega) C
    clear C x8 y8 HZ8 s8 HB8
    clear K8
    have lTa : Hid (LT.toArray.size = 51) := show _ by rw [List.size_toArray]; exact lT.out
    have xM := x9
    go_wp2_with (first | (refine jao rfl rfl 38 _ _ rfl z _ rfl rfl 38 _ xM (by rw [lTa.out]; kernel_rfl) (by rw [lTa.out]; exact lM.out) oT.out ?_; refine Stp.out ?_))
    refine ⟨?_⟩
    have x10 := Bq.row xM LT.toArray
    have y10 := y9.rowOther (show z + 1 ≠ z by omega) LT.toArray
    have HZ10 : Hid (Bq (z + 2) 38 zSA (V9.setRow z LT.toArray)) := show _ from Bq.rowOther (show Bq (z + 2) 38 zSA V9 from HZ9.out) (show z + 2 ≠ z by omega) LT.toArray
    have s10 : z + 3 ≤ (V9.setRow z LT.toArray).heap.size := by rw [size_setRow]; exact s9
    have HB10 : Hid (Below z w (V9.setRow z LT.toArray)) := jas HB9.out (Nat.le_refl _) _
    obtain ⟨V10, hV10⟩ : ∃ V, V9.setRow z LT.toArray = V := ⟨_, rfl⟩
    rw [hV10] at x10 y10 HZ10 s10 HB10 ⊢
    clear hV10 xM x9 y9 HZ9 s9 HB9 lM
    have KD := K9 V10 HB10.out (by omega)
    have HYZ : Hid (Bq (z + 2) 38 zSA V10) := show _ from HZ10.out
    have HS : Hid (z + 3 ≤ V10.heap.size) := show _ from s10
    clear K9 y10 HZ10 s10
    have xL := x10
    clear x10
    go_wp2_with (first | (refine wpList_load_row rfl 38 _ rfl z rfl _ _ _ _ xL Tryz.underlying38 rfl (by rw [lTa.out]; kernel_rfl) ?_))
    refine KD.mono ?_
    rintro e V20 ⟨⟨q7, rfl, G7⟩, C⟩
    have y7 : Bq (z + 2) 38 zSA V20 := Bq.below (show Bq (z + 2) 38 zSA V10 from HYZ.out) C
    have BX : Below z w V20 := jaa HB10.out (by have := HS.out; omega) C
    have hQ : Hid ((stV FS q7).toArray.size = 51) := show _ from rfl
    have hone := jbz FS q7
    obtain ⟨F9, hF9⟩ : ∃ F, (stV FS q7).toArray = F := ⟨_, rfl⟩
    have HF : Hid (_ ∧ _ ∧ _ ∧ _) := ⟨BX, G7, hF9, jba hone⟩
    rw [hF9] at hQ ⊢
    clear BX G7 hF9 hone C KD HB10 HYZ xL
    go_wp2_with (refine jao rfl rfl 38 _ _ rfl (z + 2) _ rfl rfl 38 _ y7 (by rw [hQ.out]; kernel_rfl) (by rw [hQ.out]; rfl) (by rw [← HF.out.2.2.1]; exact HF.out.2.2.2) ?_)
    obtain ⟨BX, G7, hF9, -⟩ := HF.out
    refine bodyPost_ret (jbd rfl _ _ (z + 2) 38 _ (0, 0) _ rfl (Bq.row (show Bq (z + 2) 38 _ _ from y7) F9) Tryz.underlying38 rfl (by rw [hQ.out]; kernel_rfl) (.int .i64 0) rfl) rfl ⟨⟨q7, by rw [← hF9], ?_⟩, ?_⟩
    ·exact (G7.keep (by rw [size_setRow]; exact Nat.le_refl _) fun b hb _ => setRow_other _ _ _ _ (by have := HS.out; omega)).mono (by have := HZ.out; have := HS.out; omega)
    ·rw [HZ.out]
     exact jas BX (by omega) F9
 | true =>
  have QE := jbl (jac x2 22 XE (st9_E H9.out.1)) (by omega)
  have QU := jbl (jal y2) (by omega)
  have k47 := c47
  have eK : (if bt = true then LU.toArray else XE.toArray) = XX.toArray := by rw [← H9.out.2.1]; cases bt <;> rfl
  have K4n := K4 bt
  rw [eK] at K4n
  have c3 := jae (w := V2) K3
  have c4 := jae (w := V2) K4n
  have lXX : XX.length = 25 := by rw [← H9.out.2.1]; split; exact HLn.out.1; exact H9.out.1.e
  have oXX : ∀ v ∈ XX, v.oneCell' = true := by rw [← H9.out.2.1]; split; exact HO.out.1; exact HO.out.2.1
  have BV := HB2.out
  have hzV : z < V2.heap.size := by omega
  have lE : Hid (XE.length = 25) := show _ from H9.out.1.e
  clear eK
  go_wp2_with fail
  refine jar 14 (by kernel_rfl) (by kernel_rfl) ?_
  simp only [List.take_succ_cons, List.take_zero, List.drop_succ_cons, List.drop_zero]
  refine Stp.out ?_
  iterate 1 (refine jag (fun K hK => ?_); go_simp; refine hK _ ?_; clear hK K)
  refine jag (fun K hK => ?_)
  go_simp
  apply Exists.intro
  refine ⟨fun r => ?_, hK _ ?_⟩
  ·have cW := ((below_regrown V2 r.d r.os).cell hzV).trans k47
   rw [cW]
   exact ⟨rfl, rfl⟩
  clear hK K
  iterate 2 (refine jag (fun K hK => ?_); go_simp; refine hK _ ?_; clear hK K)
  refine jak (by kernel_rfl) 33 _ rfl _ _ rfl _ _ QU Tryz.underlying33 rfl (by rw [HLn.out.1]; kernel_rfl) ?_
  iterate 1 (refine jag (fun K hK => ?_); go_simp; refine hK _ ?_; clear hK K)
  refine jak (by kernel_rfl) 33 _ rfl _ _ rfl _ _ QE Tryz.underlying33 rfl (by rw [lE.out]; kernel_rfl) ?_
  refine jag (fun K hK => ?_)
  go_simp
  apply Exists.intro
  refine ⟨fun _ => ?_, hK _ ?_⟩
  exact c3 _ _
  clear hK K
  iterate 1 (refine jag (fun K hK => ?_); go_simp; refine hK _ ?_; clear hK K)
  refine jak (by kernel_rfl) 33 _ rfl _ _ rfl _ _ QU Tryz.underlying33 rfl (by rw [HLn.out.1]; kernel_rfl) ?_
  iterate 1 (refine jag (fun K hK => ?_); go_simp; refine hK _ ?_; clear hK K)
  refine jak (by kernel_rfl) 33 _ rfl _ _ rfl _ _ QE Tryz.underlying33 rfl (by rw [lE.out]; kernel_rfl) ?_
  refine jag (fun K hK => ?_)
  go_simp
  apply Exists.intro
  refine ⟨fun _ => ?_, hK _ ?_⟩
  exact c4 _ _
  clear hK K
  iterate 1 (refine jag (fun K hK => ?_); go_simp; refine hK _ ?_; clear hK K)
  refine ⟨wpQuiet_nil ?_⟩
  intro V3 hV3
  have cB3 : Below V2.heap.size V2 V3 := by
   obtain ⟨p, rfl⟩ := hV3
   exact below_regrown _ _ _
  have B3 : Below z w V3 := by
   obtain ⟨p, rfl⟩ := hV3
   exact jaa BV (by have := BV.size; omega) (below_regrown V2 p.d p.os)
  clear hV3
  have C := cB3
  have x3 := x2.below C
  have y3 : Bq (z + 1) 33 LU.toArray V3 := y2.below C
  have HZ3 : Hid (Bq (z + 2) 38 zSA V3) := show _ from Bq.below (show Bq (z + 2) 38 zSA V2 from HZ2.out) C
  have s3 : z + 3 ≤ V3.heap.size := by have := C.size; omega
  have HB3 : Hid (Below z w V3) := jaa HB2.out (by omega) C
  clear C cB3 BV B3 QE QU k47 c47 c3 c4 hzV K3 K4 K4n lE x2 y2 HZ2 s2 HB2
  have ht : V3.there z 22 XX.length := jai x3 (by rw [lXX, jaz H9.out.1]; omega)
  go_wp2_with (first | (refine jat rfl rfl 33 _ _ rfl z 22 XX rfl rfl ht (by rw [lXX]; kernel_rfl) oXX ?_; refine Stp.out ?_))
  refine ⟨?_⟩
  have x4 := jcw H9.out.1 lXX x3
  have y4 : Bq (z + 1) 33 LU.toArray (V3.setCells z 22 XX) := (jad (by omega) _ _ _).trans y3
  have HZ4 : Hid (Bq (z + 2) 38 zSA (V3.setCells z 22 XX)) := show _ from (jad (by omega) _ _ _).trans HZ3.out
  have s4 : z + 3 ≤ (V3.setCells z 22 XX).heap.size := by rw [jaj]; exact s3
  have HB4 : Hid (Below z w (V3.setCells z 22 XX)) := jaq HB3.out (Nat.le_refl _) _
  obtain ⟨V4, hV4⟩ : ∃ W, V3.setCells z 22 XX = W := ⟨_, rfl⟩
  rw [hV4] at x4 y4 HZ4 s4 HB4 ⊢
  clear hV4 x3 y3 HZ3 s3 HB3
  clear ht
  have h9e : L9 XA XB XC XD XX := ⟨H9.out.1.a, H9.out.1.b, H9.out.1.c, H9.out.1.d, lXX⟩
  have c47 : V4.cell? ⟨z, 47, none⟩ = some (.bool true) := jaf x4 47 _ (st9_h h9e)
  have c48 : V4.cell? ⟨z, 48, none⟩ = some (.int .i64 nl) := jaf x4 48 _ (st9_l h9e)
  have c49 : V4.cell? ⟨z, 49, none⟩ = some (.int .i64 nt) := jaf x4 49 _ (st9_t h9e)
  have f47 : V4.frozen? ⟨z, 47, none⟩ = false := Bq.fr x4 47
  have f49 : V4.frozen? ⟨z, 49, none⟩ = false := Bq.fr x4 49
  have x5 := st9_putt h9e M (jcv h9e true x4)
  have y5 : Bq (z + 1) 33 LU.toArray ((V4.setCell ⟨z, 47, none⟩ (.bool true)).setCell ⟨z, 49, none⟩ (.int .i64 M)) := (Below.heap_setCell _ _ _ _ (show z + 1 ≠ z by omega)).trans ((Below.heap_setCell _ _ _ _ (show z + 1 ≠ z by omega)).trans y4)
  have HZ5 : Hid (Bq (z + 2) 38 zSA ((V4.setCell ⟨z, 47, none⟩ (.bool true)).setCell ⟨z, 49, none⟩ (.int .i64 M))) := show _ from (Below.heap_setCell _ _ _ _ (show z + 2 ≠ z by omega)).trans ((Below.heap_setCell _ _ _ _ (show z + 2 ≠ z by omega)).trans HZ4.out)
  have s5 : z + 3 ≤ ((V4.setCell ⟨z, 47, none⟩ (.bool true)).setCell ⟨z, 49, none⟩ (.int .i64 M)).heap.size := by rw [jca, jca]; exact s4
  have HB5 : Hid (Below z w ((V4.setCell ⟨z, 47, none⟩ (.bool true)).setCell ⟨z, 49, none⟩ (.int .i64 M))) := show _ from (HB4.out.setCell (p := ⟨z, 47, none⟩) (Nat.le_refl _) _).setCell (p := ⟨z, 49, none⟩) (Nat.le_refl _) _
  have H5 : Hid (_ ∧ _ ∧ _) := ⟨x5, y5, s5⟩
  have hM := H9.out.2.2.2.2
  have hen := H9.out.2.2.2.1
  have hml := HO.out.2.2.2.2.2.2.2
  have wd : IntKind.i64.wrap ((max nl M).tdiv 2) = (max nl M).tdiv 2 := by
   have : 0 ≤ M := by omega
   rw [IntKind.wrap_i64, Int.tdiv_eq_ediv_of_nonneg (by omega)]
   omega
  clear x4 y4 HZ4 s4 HB4 x5 y5 s5
  go_wp2_with fail
  obtain ⟨x5, y5, s5⟩ := H5.out
  obtain ⟨V5, hV5⟩ : ∃ V, ((V4.setCell ⟨z, 47, none⟩ (.bool true)).setCell ⟨z, 49, none⟩ (.int .i64 M)) = V := ⟨_, rfl⟩
  rw [hV5] at x5 y5 HZ5 s5 HB5 ⊢
  clear hV5 H5 hM hen wd c47 c48 c49 f47 f49
  have hXN := H9.out.2.2.1
  have QL := jbl (jac y5 0 UL ul) (by omega)
  have QB := jbl (jac x5 9 XB (st9_B h9e)) (by omega)
  have lB : Hid (XB.length = 9) := show _ from H9.out.1.b
  have BV := HB5.out
  cases en with
  | false =>
   have eN : (if false = true then UL.toArray else XB.toArray) = XN.toArray := by rw [← hXN]; rfl
   have K6n := K6 false
   rw [eN] at K6n
   have c6 := jae (w := V5) K6n
   have lXN : XN.length = 9 := by rw [← hXN]; split; exact HLn.out.2; exact H9.out.1.b
   have oXN : ∀ v ∈ XN, v.oneCell' = true := by rw [← hXN]; split; exact HO.out.2.2.1; exact HO.out.2.2.2.2.1
   have h9n : L9 XA XN XC XD XX := ⟨h9e.a, lXN, h9e.c, h9e.d, h9e.e⟩
   clear eN hXN
   refine jar 14 (by kernel_rfl) (by kernel_rfl) ?_
   simp only [List.take_succ_cons, List.take_zero, List.drop_succ_cons, List.drop_zero]
   refine Stp.out ?_
   iterate 2 (refine jag (fun K hK => ?_); go_simp; refine hK _ ?_; clear hK K)
   iterate 5 (refine jag (fun K hK => ?_); go_simp; refine hK _ ?_; clear hK K)
   iterate 2 (refine jag (fun K hK => ?_); go_simp; refine hK _ ?_; clear hK K)
   refine jak (by kernel_rfl) 29 _ rfl _ _ rfl _ _ QL Tryz.underlying29 rfl (by rw [HLn.out.2]; kernel_rfl) ?_
   iterate 1 (refine jag (fun K hK => ?_); go_simp; refine hK _ ?_; clear hK K)
   refine jak (by kernel_rfl) 29 _ rfl _ _ rfl _ _ QB Tryz.underlying29 rfl (by rw [lB.out]; kernel_rfl) ?_
   refine jag (fun K hK => ?_)
   go_simp
   apply Exists.intro
   refine ⟨fun _ => ?_, hK _ ?_⟩
   exact c6 _ _
   clear hK K
   iterate 1 (refine jag (fun K hK => ?_); go_simp; refine hK _ ?_; clear hK K)
   refine ⟨wpQuiet_nil ?_⟩
   intro V6 hV6
   have cB6 : Below V5.heap.size V5 V6 := by
    obtain ⟨p, rfl⟩ := hV6
    exact below_regrown _ _ _
   have B6 : Below z w V6 := by
    obtain ⟨p, rfl⟩ := hV6
    exact jaa BV (by have := BV.size; omega) (below_regrown V5 p.d p.os)
   clear hV6
   have C := cB6
   have x6 := x5.below C
   have y6 : Bq (z + 1) 33 LU.toArray V6 := y5.below C
   have HZ6 : Hid (Bq (z + 2) 38 zSA V6) := show _ from Bq.below (show Bq (z + 2) 38 zSA V5 from HZ5.out) C
   have s6 : z + 3 ≤ V6.heap.size := by have := C.size; omega
   have HB6 : Hid (Below z w V6) := jaa HB5.out (by omega) C
   clear C cB6 BV B6 QL QB c6 K5 K6 K6n lB x5 y5 HZ5 s5 HB5
   have ht : V6.there z 9 XN.length := jai x6 (by rw [lXN, jaz h9e]; omega)
   go_wp2_with (first | (refine jat rfl rfl 29 _ _ rfl z 9 XN rfl rfl ht (by rw [lXN]; kernel_rfl) oXN ?_; refine Stp.out ?_))
   refine ⟨?_⟩
   have x7 := jdp h9e lXN x6
   have y7 : Bq (z + 1) 33 LU.toArray (V6.setCells z 9 XN) := (jad (by omega) _ _ _).trans y6
   have HZ7 : Hid (Bq (z + 2) 38 zSA (V6.setCells z 9 XN)) := show _ from (jad (by omega) _ _ _).trans HZ6.out
   have s7 : z + 3 ≤ (V6.setCells z 9 XN).heap.size := by rw [jaj]; exact s6
   have HB7 : Hid (Below z w (V6.setCells z 9 XN)) := jaq HB6.out (Nat.le_refl _) _
   obtain ⟨V7, hV7⟩ : ∃ W, V6.setCells z 9 XN = W := ⟨_, rfl⟩
   rw [hV7] at x7 y7 HZ7 s7 HB7 ⊢
   clear hV7 x6 y6 HZ6 s6 HB6
   clear ht
   have lM : Hid ((st9 XA XN XC XD XX true nl M bf).toArray.size = 51) := show _ by rw [List.size_toArray]; exact jaz h9n
   have RU := jal y7
   have xM := x7
   go_wp2_with (first | (refine wpList_load_row rfl 38 _ rfl z rfl _ _ _ _ xM Tryz.underlying38 rfl (by rw [lM.out]; kernel_rfl) ?_) | (refine wpList_load_mid rfl 33 _ rfl (z + 1) 0 rfl _ _ RU Tryz.underlying33 rfl (by rw [HLn.out.1]; kernel_rfl) ?_) | (refine jab (by rfl) 33 _ rfl (z + 1) 0 rfl _ _ RU Tryz.underlying33 rfl (by rw [HLn.out.1]; kernel_rfl) ?_))
   refine (K7 _).mono ?_
   rintro e V8 ⟨rfl, C⟩
   clear xM RU
   have x8 := x7.below C
   have y8 : Bq (z + 1) 33 LU.toArray V8 := y7.below C
   have HZ8 : Hid (Bq (z + 2) 38 zSA V8) := show _ from Bq.below (show Bq (z + 2) 38 zSA V7 from HZ7.out) C
   have s8 : z + 3 ≤ V8.heap.size := by have := C.size; omega
   have HB8 : Hid (Below z w V8) := jaa HB7.out (by omega) C
   clear C x7 y7 HZ7 s7 HB7
   clear K7
   cases fz with
   | false =>
    rw [if_neg (by decide)] at K9
    clear K8
    have KD := K9 V8 HB8.out (by omega)
    have HYZ : Hid (Bq (z + 2) 38 zSA V8) := show _ from HZ8.out
    have HS : Hid (z + 3 ≤ V8.heap.size) := show _ from s8
    clear K9 y8 HZ8 s8
    have xL := x8
    clear x8
    go_wp2_with (first | (refine wpList_load_row rfl 38 _ rfl z rfl _ _ _ _ xL Tryz.underlying38 rfl (by rw [lM.out]; kernel_rfl) ?_))
    refine KD.mono ?_
    rintro e V20 ⟨⟨q7, rfl, G7⟩, C⟩
    have y7 : Bq (z + 2) 38 zSA V20 := Bq.below (show Bq (z + 2) 38 zSA V8 from HYZ.out) C
    have BX : Below z w V20 := jaa HB8.out (by have := HS.out; omega) C
    have hQ : Hid ((stV FS q7).toArray.size = 51) := show _ from rfl
    have hone := jbz FS q7
    obtain ⟨F9, hF9⟩ : ∃ F, (stV FS q7).toArray = F := ⟨_, rfl⟩
    have HF : Hid (_ ∧ _ ∧ _ ∧ _) := ⟨BX, G7, hF9, jba hone⟩
    rw [hF9] at hQ ⊢
    clear BX G7 hF9 hone C KD HB8 HYZ xL
    go_wp2_with (refine jao rfl rfl 38 _ _ rfl (z + 2) _ rfl rfl 38 _ y7 (by rw [hQ.out]; kernel_rfl) (by rw [hQ.out]; rfl) (by rw [← HF.out.2.2.1]; exact HF.out.2.2.2) ?_)
    obtain ⟨BX, G7, hF9, -⟩ := HF.out
    refine bodyPost_ret (jbd rfl _ _ (z + 2) 38 _ (0, 0) _ rfl (Bq.row (show Bq (z + 2) 38 _ _ from y7) F9) Tryz.underlying38 rfl (by rw [hQ.out]; kernel_rfl) (.int .i64 0) rfl) rfl ⟨⟨q7, by rw [← hF9], ?_⟩, ?_⟩
    ·exact (G7.keep (by rw [size_setRow]; exact Nat.le_refl _) fun b hb _ => setRow_other _ _ _ _ (by have := HS.out; omega)).mono (by have := HZ.out; have := HS.out; omega)
    ·rw [HZ.out]
     exact jas BX (by omega) F9
   | true =>
    rw [if_pos rfl] at K9
    have RU := jal y8
    have xM := x8
    go_wp2_with (first | (refine wpList_load_row rfl 38 _ rfl z rfl _ _ _ _ xM Tryz.underlying38 rfl (by rw [lM.out]; kernel_rfl) ?_) | (refine wpList_load_mid rfl 33 _ rfl (z + 1) 0 rfl _ _ RU Tryz.underlying33 rfl (by rw [HLn.out.1]; kernel_rfl) ?_) | (refine jab (by rfl) 33 _ rfl (z + 1) 0 rfl _ _ RU Tryz.underlying33 rfl (by rw [HLn.out.1]; kernel_rfl) ?_))
    refine (K8 _).mono ?_
    rintro e V9 ⟨rfl, C⟩
    clear xM RU
    have x9 := x8.below C
    have y9 : Bq (z + 1) 33 LU.toArray V9 := y8.below C
    have HZ9 : Hid (Bq (z + 2) 38 zSA V9) := show _ from Bq.below (show Bq (z + 2) 38 zSA V8 from HZ8.out) C
    have s9 : z + 3 ≤ V9.heap.size := by have := C.size; omega
    have HB9 : Hid (Below z w V9) := jaa HB8.out (by omega) C
    clear C x8 y8 HZ8 s8 HB8
    clear K8
    have lTa : Hid (LT.toArray.size = 51) := show _ by rw [List.size_toArray]; exact lT.out
    have xM := x9
    go_wp2_with (first | (refine jao rfl rfl 38 _ _ rfl z _ rfl rfl 38 _ xM (by rw [lTa.out]; kernel_rfl) (by rw [lTa.out]; exact lM.out) oT.out ?_; refine Stp.out ?_))
    refine ⟨?_⟩
    have x10 := Bq.row xM LT.toArray
    have y10 := y9.rowOther (show z + 1 ≠ z by omega) LT.toArray
    have HZ10 : Hid (Bq (z + 2) 38 zSA (V9.setRow z LT.toArray)) := show _ from Bq.rowOther (show Bq (z + 2) 38 zSA V9 from HZ9.out) (show z + 2 ≠ z by omega) LT.toArray
    have s10 : z + 3 ≤ (V9.setRow z LT.toArray).heap.size := by rw [size_setRow]; exact s9
    have HB10 : Hid (Below z w (V9.setRow z LT.toArray)) := jas HB9.out (Nat.le_refl _) _
    obtain ⟨V10, hV10⟩ : ∃ V, V9.setRow z LT.toArray = V := ⟨_, rfl⟩
    rw [hV10] at x10 y10 HZ10 s10 HB10 ⊢
    clear hV10 xM x9 y9 HZ9 s9 HB9 lM
    have KD := K9 V10 HB10.out (by omega)
    have HYZ : Hid (Bq (z + 2) 38 zSA V10) := show _ from HZ10.out
    have HS : Hid (z + 3 ≤ V10.heap.size) := show _ from s10
    clear K9 y10 HZ10 s10
    have xL := x10
    clear x10
    go_wp2_with (first | (refine wpList_load_row rfl 38 _ rfl z rfl _ _ _ _ xL Tryz.underlying38 rfl (by rw [lTa.out]; kernel_rfl) ?_))
    refine KD.mono ?_
    rintro e V20 ⟨⟨q7, rfl, G7⟩, C⟩
    have y7 : Bq (z + 2) 38 zSA V20 := Bq.below (show Bq (z + 2) 38 zSA V10 from HYZ.out) C
    have BX : Below z w V20 := jaa HB10.out (by have := HS.out; omega) C
    have hQ : Hid ((stV FS q7).toArray.size = 51) := show _ from rfl
    have hone := jbz FS q7
    obtain ⟨F9, hF9⟩ : ∃ F, (stV FS q7).toArray = F := ⟨_, rfl⟩
    have HF : Hid (_ ∧ _ ∧ _ ∧ _) := ⟨BX, G7, hF9, jba hone⟩
    rw [hF9] at hQ ⊢
    clear BX G7 hF9 hone C KD HB10 HYZ xL
    go_wp2_with (refine jao rfl rfl 38 _ _ rfl (z + 2) _ rfl rfl 38 _ y7 (by rw [hQ.out]; kernel_rfl) (by rw [hQ.out]; rfl) (by rw [← HF.out.2.2.1]; exact HF.out.2.2.2) ?_)
    obtain ⟨BX, G7, hF9, -⟩ := HF.out
    refine bodyPost_ret (jbd rfl _ _ (z + 2) 38 _ (0, 0) _ rfl (Bq.row (show Bq (z + 2) 38 _ _ from y7) F9) Tryz.underlying38 rfl (by rw [hQ.out]; kernel_rfl) (.int .i64 0) rfl) rfl ⟨⟨q7, by rw [← hF9], ?_⟩, ?_⟩
    ·exact (G7.keep (by rw [size_setRow]; exact Nat.le_refl _) fun b hb _ => setRow_other _ _ _ _ (by have := HS.out; omega)).mono (by have := HZ.out; have := HS.out; omega)
    ·rw [HZ.out]
     exact jas BX (by omega) F9
  | true =>
   have eN : (if an = true then UL.toArray else XB.toArray) = XN.toArray := by rw [← hXN]; cases an <;> rfl
   have K6n := K6 an
   rw [eN] at K6n
   have c5 := jae (w := V5) K5
   have c6 := jae (w := V5) K6n
   have lXN : XN.length = 9 := by rw [← hXN]; split; exact HLn.out.2; exact H9.out.1.b
   have oXN : ∀ v ∈ XN, v.oneCell' = true := by rw [← hXN]; split; exact HO.out.2.2.1; exact HO.out.2.2.2.2.1
   have h9n : L9 XA XN XC XD XX := ⟨h9e.a, lXN, h9e.c, h9e.d, h9e.e⟩
   clear eN hXN
   refine jar 14 (by kernel_rfl) (by kernel_rfl) ?_
   simp only [List.take_succ_cons, List.take_zero, List.drop_succ_cons, List.drop_zero]
   refine Stp.out ?_
   iterate 2 (refine jag (fun K hK => ?_); go_simp; refine hK _ ?_; clear hK K)
   iterate 1 (refine jag (fun K hK => ?_); go_simp; refine hK _ ?_; clear hK K)
   refine jak (by kernel_rfl) 29 _ rfl _ _ rfl _ _ QL Tryz.underlying29 rfl (by rw [HLn.out.2]; kernel_rfl) ?_
   iterate 1 (refine jag (fun K hK => ?_); go_simp; refine hK _ ?_; clear hK K)
   refine jak (by kernel_rfl) 29 _ rfl _ _ rfl _ _ QB Tryz.underlying29 rfl (by rw [lB.out]; kernel_rfl) ?_
   refine jag (fun K hK => ?_)
   go_simp
   apply Exists.intro
   refine ⟨fun _ => ?_, hK _ ?_⟩
   exact c5 _ _
   clear hK K
   iterate 2 (refine jag (fun K hK => ?_); go_simp; refine hK _ ?_; clear hK K)
   refine jak (by kernel_rfl) 29 _ rfl _ _ rfl _ _ QL Tryz.underlying29 rfl (by rw [HLn.out.2]; kernel_rfl) ?_
   iterate 1 (refine jag (fun K hK => ?_); go_simp; refine hK _ ?_; clear hK K)
   refine jak (by kernel_rfl) 29 _ rfl _ _ rfl _ _ QB Tryz.underlying29 rfl (by rw [lB.out]; kernel_rfl) ?_
   refine jag (fun K hK => ?_)
   go_simp
   apply Exists.intro
   refine ⟨fun _ => ?_, hK _ ?_⟩
   exact c6 _ _
   clear hK K
   iterate 1 (refine jag (fun K hK => ?_); go_simp; refine hK _ ?_; clear hK K)
   refine ⟨wpQuiet_nil ?_⟩
   intro V6 hV6
   have cB6 : Below V5.heap.size V5 V6 := by
    obtain ⟨p, rfl⟩ := hV6
    exact below_regrown _ _ _
   have B6 : Below z w V6 := by
    obtain ⟨p, rfl⟩ := hV6
    exact jaa BV (by have := BV.size; omega) (below_regrown V5 p.d p.os)
   clear hV6
   have C := cB6
   have x6 := x5.below C
   have y6 : Bq (z + 1) 33 LU.toArray V6 := y5.below C
   have HZ6 : Hid (Bq (z + 2) 38 zSA V6) := show _ from Bq.below (show Bq (z + 2) 38 zSA V5 from HZ5.out) C
   have s6 : z + 3 ≤ V6.heap.size := by have := C.size; omega
   have HB6 : Hid (Below z w V6) := jaa HB5.out (by omega) C
   clear C cB6 BV B6 QL QB c5 c6 K5 K6 K6n lB x5 y5 HZ5 s5 HB5
   have ht : V6.there z 9 XN.length := jai x6 (by rw [lXN, jaz h9e]; omega)
   go_wp2_with (first | (refine jat rfl rfl 29 _ _ rfl z 9 XN rfl rfl ht (by rw [lXN]; kernel_rfl) oXN ?_; refine Stp.out ?_))
   refine ⟨?_⟩
   have x7 := jdp h9e lXN x6
   have y7 : Bq (z + 1) 33 LU.toArray (V6.setCells z 9 XN) := (jad (by omega) _ _ _).trans y6
   have HZ7 : Hid (Bq (z + 2) 38 zSA (V6.setCells z 9 XN)) := show _ from (jad (by omega) _ _ _).trans HZ6.out
   have s7 : z + 3 ≤ (V6.setCells z 9 XN).heap.size := by rw [jaj]; exact s6
   have HB7 : Hid (Below z w (V6.setCells z 9 XN)) := jaq HB6.out (Nat.le_refl _) _
   obtain ⟨V7, hV7⟩ : ∃ W, V6.setCells z 9 XN = W := ⟨_, rfl⟩
   rw [hV7] at x7 y7 HZ7 s7 HB7 ⊢
   clear hV7 x6 y6 HZ6 s6 HB6
   clear ht
   have lM : Hid ((st9 XA XN XC XD XX true nl M bf).toArray.size = 51) := show _ by rw [List.size_toArray]; exact jaz h9n
   have RU := jal y7
   have xM := x7
   go_wp2_with (first | (refine wpList_load_row rfl 38 _ rfl z rfl _ _ _ _ xM Tryz.underlying38 rfl (by rw [lM.out]; kernel_rfl) ?_) | (refine wpList_load_mid rfl 33 _ rfl (z + 1) 0 rfl _ _ RU Tryz.underlying33 rfl (by rw [HLn.out.1]; kernel_rfl) ?_) | (refine jab (by rfl) 33 _ rfl (z + 1) 0 rfl _ _ RU Tryz.underlying33 rfl (by rw [HLn.out.1]; kernel_rfl) ?_))
   refine (K7 _).mono ?_
   rintro e V8 ⟨rfl, C⟩
   clear xM RU
   have x8 := x7.below C
   have y8 : Bq (z + 1) 33 LU.toArray V8 := y7.below C
   have HZ8 : Hid (Bq (z + 2) 38 zSA V8) := show _ from Bq.below (show Bq (z + 2) 38 zSA V7 from HZ7.out) C
   have s8 : z + 3 ≤ V8.heap.size := by have := C.size; omega
   have HB8 : Hid (Below z w V8) := jaa HB7.out (by omega) C
   clear C x7 y7 HZ7 s7 HB7
   clear K7
   cases fz with
   | false =>
    rw [if_neg (by decide)] at K9
    clear K8
    have KD := K9 V8 HB8.out (by omega)
    have HYZ : Hid (Bq (z + 2) 38 zSA V8) := show _ from HZ8.out
    have HS : Hid (z + 3 ≤ V8.heap.size) := show _ from s8
    clear K9 y8 HZ8 s8
    have xL := x8
    clear x8
    go_wp2_with (first | (refine wpList_load_row rfl 38 _ rfl z rfl _ _ _ _ xL Tryz.underlying38 rfl (by rw [lM.out]; kernel_rfl) ?_))
    refine KD.mono ?_
    rintro e V20 ⟨⟨q7, rfl, G7⟩, C⟩
    have y7 : Bq (z + 2) 38 zSA V20 := Bq.below (show Bq (z + 2) 38 zSA V8 from HYZ.out) C
    have BX : Below z w V20 := jaa HB8.out (by have := HS.out; omega) C
    have hQ : Hid ((stV FS q7).toArray.size = 51) := show _ from rfl
    have hone := jbz FS q7
    obtain ⟨F9, hF9⟩ : ∃ F, (stV FS q7).toArray = F := ⟨_, rfl⟩
    have HF : Hid (_ ∧ _ ∧ _ ∧ _) := ⟨BX, G7, hF9, jba hone⟩
    rw [hF9] at hQ ⊢
    clear BX G7 hF9 hone C KD HB8 HYZ xL
    go_wp2_with (refine jao rfl rfl 38 _ _ rfl (z + 2) _ rfl rfl 38 _ y7 (by rw [hQ.out]; kernel_rfl) (by rw [hQ.out]; rfl) (by rw [← HF.out.2.2.1]; exact HF.out.2.2.2) ?_)
    obtain ⟨BX, G7, hF9, -⟩ := HF.out
    refine bodyPost_ret (jbd rfl _ _ (z + 2) 38 _ (0, 0) _ rfl (Bq.row (show Bq (z + 2) 38 _ _ from y7) F9) Tryz.underlying38 rfl (by rw [hQ.out]; kernel_rfl) (.int .i64 0) rfl) rfl ⟨⟨q7, by rw [← hF9], ?_⟩, ?_⟩
    ·exact (G7.keep (by rw [size_setRow]; exact Nat.le_refl _) fun b hb _ => setRow_other _ _ _ _ (by have := HS.out; omega)).mono (by have := HZ.out; have := HS.out; omega)
    ·rw [HZ.out]
     exact jas BX (by omega) F9
   | true =>
    rw [if_pos rfl] at K9
    have RU := jal y8
    have xM := x8
    go_wp2_with (first | (refine wpList_load_row rfl 38 _ rfl z rfl _ _ _ _ xM Tryz.underlying38 rfl (by rw [lM.out]; kernel_rfl) ?_) | (refine wpList_load_mid rfl 33 _ rfl (z + 1) 0 rfl _ _ RU Tryz.underlying33 rfl (by rw [HLn.out.1]; kernel_rfl) ?_) | (refine jab (by rfl) 33 _ rfl (z + 1) 0 rfl _ _ RU Tryz.underlying33 rfl (by rw [HLn.out.1]; kernel_rfl) ?_))
    refine (K8 _).mono ?_
    rintro e V9 ⟨rfl, C⟩
    clear xM RU
    have x9 := x8.below C
    have y9 : Bq (z + 1) 33 LU.toArray V9 := y8.below C
    have HZ9 : Hid (Bq (z + 2) 38 zSA V9) := show _ from Bq.below (show Bq (z + 2) 38 zSA V8 from HZ8.out) C
    have s9 : z + 3 ≤ V9.heap.size := by have := C.size; omega
    have HB9 : Hid (Below z w V9) := jaa HB8.out (by omega) C
    clear C x8 y8 HZ8 s8 HB8
    clear K8
    have lTa : Hid (LT.toArray.size = 51) := show _ by rw [List.size_toArray]; exact lT.out
    have xM := x9
    go_wp2_with (first | (refine jao rfl rfl 38 _ _ rfl z _ rfl rfl 38 _ xM (by rw [lTa.out]; kernel_rfl) (by rw [lTa.out]; exact lM.out) oT.out ?_; refine Stp.out ?_))
    refine ⟨?_⟩
    have x10 := Bq.row xM LT.toArray
    have y10 := y9.rowOther (show z + 1 ≠ z by omega) LT.toArray
    have HZ10 : Hid (Bq (z + 2) 38 zSA (V9.setRow z LT.toArray)) := show _ from Bq.rowOther (show Bq (z + 2) 38 zSA V9 from HZ9.out) (show z + 2 ≠ z by omega) LT.toArray
    have s10 : z + 3 ≤ (V9.setRow z LT.toArray).heap.size := by rw [size_setRow]; exact s9
    have HB10 : Hid (Below z w (V9.setRow z LT.toArray)) := jas HB9.out (Nat.le_refl _) _
    obtain ⟨V10, hV10⟩ : ∃ V, V9.setRow z LT.toArray = V := ⟨_, rfl⟩
    rw [hV10] at x10 y10 HZ10 s10 HB10 ⊢
    clear hV10 xM x9 y9 HZ9 s9 HB9 lM
    have KD := K9 V10 HB10.out (by omega)
    have HYZ : Hid (Bq (z + 2) 38 zSA V10) := show _ from HZ10.out
    have HS : Hid (z + 3 ≤ V10.heap.size) := show _ from s10
    clear K9 y10 HZ10 s10
    have xL := x10
    clear x10
    go_wp2_with (first | (refine wpList_load_row rfl 38 _ rfl z rfl _ _ _ _ xL Tryz.underlying38 rfl (by rw [lTa.out]; kernel_rfl) ?_))
    refine KD.mono ?_
    rintro e V20 ⟨⟨q7, rfl, G7⟩, C⟩
    have y7 : Bq (z + 2) 38 zSA V20 := Bq.below (show Bq (z + 2) 38 zSA V10 from HYZ.out) C
    have BX : Below z w V20 := jaa HB10.out (by have := HS.out; omega) C
    have hQ : Hid ((stV FS q7).toArray.size = 51) := show _ from rfl
    have hone := jbz FS q7
    obtain ⟨F9, hF9⟩ : ∃ F, (stV FS q7).toArray = F := ⟨_, rfl⟩
    have HF : Hid (_ ∧ _ ∧ _ ∧ _) := ⟨BX, G7, hF9, jba hone⟩
    rw [hF9] at hQ ⊢
    clear BX G7 hF9 hone C KD HB10 HYZ xL
    go_wp2_with (refine jao rfl rfl 38 _ _ rfl (z + 2) _ rfl rfl 38 _ y7 (by rw [hQ.out]; kernel_rfl) (by rw [hQ.out]; rfl) (by rw [← HF.out.2.2.1]; exact HF.out.2.2.2) ?_)
    obtain ⟨BX, G7, hF9, -⟩ := HF.out
    refine bodyPost_ret (jbd rfl _ _ (z + 2) 38 _ (0, 0) _ rfl (Bq.row (show Bq (z + 2) 38 _ _ from y7) F9) Tryz.underlying38 rfl (by rw [hQ.out]; kernel_rfl) (.int .i64 0) rfl) rfl ⟨⟨q7, by rw [← hF9], ?_⟩, ?_⟩
    ·exact (G7.keep (by rw [size_setRow]; exact Nat.le_refl _) fun b hb _ => setRow_other _ _ _ _ (by have := HS.out; omega)).mono (by have := HZ.out; have := HS.out; omega)
    ·rw [HZ.out]
     exact jas BX (by omega) F9
end Go.Proofs.YtoddangedbefgabGreatDoor
