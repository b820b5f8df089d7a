/- Lemmas: What the package's takenOver does. No condition. -/
import Derived.Test.YtoddangedbefgabGreatDoorM38
import Derived.Test.YtoddangedbefgabGreatDoorM42
set_option maxRecDepth 20000
set_option maxHeartbeats 8000000
namespace Go.Proofs.YtoddangedbefgabGreatDoor
open Go.RowKit Go.Shelf Go.Sort
structure Mu5 (w : World) (z : Nat) (XA XB XC XD XE LU UC : List Value) (bh : Bool) (nl nt : Int) (bf : Bool) (S : Nat → Bool) (x36 x37 x38 x39 x40 : Value) (W : World) : Prop where
 vb : Below z w W
 vs : z + 3 ≤ W.heap.size
 vx : Bq z 38 (st9 XA XB (if S 5 = true then XD else XC) XD XE bh nl nt bf).toArray W
 vy : Bq (z + 1) 33 LU.toArray W
 vz : Bq (z + 2) 38 zSA W
 f0 : S 0 = true → x36 = .pointer (some ⟨z, 20, none⟩)
 f1 : S 1 = true → x37 = .agg XD.toArray
 f2 : S 2 = true → x38 = .pointer (some ⟨z + 1, 9, none⟩)
 f3 : S 3 = true → x39 = .agg UC.toArray
 f4 : S 4 = true → x40 = .pointer (some ⟨z, 18, none⟩)
theorem Mu5.h9 {w : World} {z : Nat} {XA XB XC XD XE LU UC : List Value} {bh : Bool} {nl nt : Int} {bf : Bool} {S : Nat → Bool} {x36 x37 x38 x39 x40 : Value} {W : World} (_h : Mu5 w z XA XB XC XD XE LU UC bh nl nt bf S x36 x37 x38 x39 x40 W) (H : L9 XA XB XC XD XE) (hD : XD.length = 2) : L9 XA XB (if S 5 = true then XD else XC) XD XE :=
 ⟨H.a, H.b, by split; exact hD; exact H.c, H.d, H.e⟩
theorem Mu5.stored {w : World} {z : Nat} {XA XB XC XD XE LU UC : List Value} {bh : Bool} {nl nt : Int} {bf : Bool} {S : Nat → Bool} {x36 x37 x38 x39 x40 : Value} {W : World} (h : Mu5 w z XA XB XC XD XE LU UC bh nl nt bf S x36 x37 x38 x39 x40 W) (H : L9 XA XB XC XD XE) (hD : XD.length = 2) (h5 : S 5 = false) :
  Mu5 w z XA XB XC XD XE LU UC bh nl nt bf (more S 5) x36 x37 x38 x39 x40 (W.setCells z 18 XD) := by
 have hx := h.vx
 rw [if_neg (by rw [h5]; exact Bool.false_ne_true)] at hx
 have e : ∀ i, i ≠ 5 → more S 5 i = S i := fun i hi => by simp [more, hi]
 refine ⟨jaq h.vb (Nat.le_refl _) _, by rw [jaj]; exact h.vs, ?_, (jad (by omega) _ _ _).trans h.vy, (jad (by omega) _ _ _).trans h.vz, ?_, ?_, ?_, ?_, ?_⟩
 ·rw [if_pos (by simp [more])]
  exact st9_putC H hD hx
 ·rw [e 0 (by decide)]; exact h.f0
 ·rw [e 1 (by decide)]; exact h.f1
 ·rw [e 2 (by decide)]; exact h.f2
 ·rw [e 3 (by decide)]; exact h.f3
 ·rw [e 4 (by decide)]; exact h.f4
theorem takenOver_any (s : StD) (d : UpD) (hs0 : s.ok) (hd : d.ok) (p : StP) (q : UpP) (w : World) :
  Calls Tryz.prog 30 #[.agg (stV s p).toArray, .agg (upV d q).toArray] w fun x w' => x = .returned (.agg (stV (tkS s d) (tkP s d p q)).toArray) ∧ Below w.heap.size w w' := by
 have KK := jdk s.nxt p.nxt
 have KW := jcj s.fin hs0.1.1 p.fin
 have KI := jcj d.f hd.2.1.1 q.f
 have KA := jdl d.f s.fin q.f p.fin
 have KB := jdl d.f s.new q.f p.new
 have KC := fun c => pickLt_any c (ltV d.f q.f).toArray (ltV s.new p.new).toArray rfl rfl (jba (jbx _ _)) (jba (jbx _ _))
 have h9 := L9_of s p
 have wb : s.fin.s / 64 + 1 < 18446744073709551616 := by have := hs0.1.1; unfold U6 at this; omega
 rw [stV_tk, stV_st9]
 have u9 := upV_c d q
 have u12 := upV_f d q
 have o9 : ∀ v ∈ ltV d.f q.f, v.oneCell' = true := jbx _ _
 have oc : ∀ v ∈ cmV d.c q.c, v.oneCell' = true := jcc _ _
 have oA : ∀ v ∈ ltV s.fin p.fin, v.oneCell' = true := jbx _ _
 have oB : ∀ v ∈ ltV s.new p.new, v.oneCell' = true := jbx _ _
 have oC : ∀ v ∈ cmV s.now p.now, v.oneCell' = true := jcc _ _
 have on : ∀ v ∈ cmV s.nxt p.nxt, v.oneCell' = true := jcc _ _
 have HLn : Hid ((upV d q).length = 25 ∧ (ltV d.f q.f).length = 9 ∧ (cmV d.c q.c).length = 2) := show _ from ⟨rfl, rfl, rfl⟩
 have e1 : tkU s d = decide (s.fin.s < d.f.s) := rfl
 have e2 : tkV s d = (decide (s.fin.s < d.f.s) && decide (s.new.s < d.f.s)) := rfl
 have e3 : tkA s d = (!decide (0 < s.nxt.ks.length) && decide (d.f.s / 64 = s.fin.s / 64)) := rfl
 have e4 : tkB s d = (decide (0 < s.nxt.ks.length) && decide (d.f.s / 64 = s.fin.s / 64 + 1)) := rfl
 rw [e1, e2, e3, e4]
 obtain ⟨kn, hk⟩ : ∃ n, decide (0 < s.nxt.ks.length) = n := ⟨_, rfl⟩
 obtain ⟨ab, ha⟩ : ∃ n, decide (s.fin.s < d.f.s) = n := ⟨_, rfl⟩
 obtain ⟨an, hb⟩ : ∃ n, decide (s.new.s < d.f.s) = n := ⟨_, rfl⟩
 obtain ⟨was, hwas⟩ : ∃ n, s.fin.s / 64 = n := ⟨_, rfl⟩
 obtain ⟨now, hnow⟩ : ∃ n, d.f.s / 64 = n := ⟨_, rfl⟩
 rw [hk] at KK ⊢
 rw [ha] at KA ⊢
 rw [hb] at KB ⊢
 rw [hwas] at KW wb ⊢
 rw [hnow] at KI ⊢
 obtain ⟨XA, hXA⟩ : ∃ L, ltV s.fin p.fin = L := ⟨_, rfl⟩
 obtain ⟨XB, hXB⟩ : ∃ L, ltV s.new p.new = L := ⟨_, rfl⟩
 obtain ⟨XC, hXC⟩ : ∃ L, cmV s.now p.now = L := ⟨_, rfl⟩
 obtain ⟨XD, hXD⟩ : ∃ L, cmV s.nxt p.nxt = L := ⟨_, rfl⟩
 obtain ⟨XE, hXE⟩ : ∃ L, upV s.best p.best = L := ⟨_, rfl⟩
 obtain ⟨LU, hLU⟩ : ∃ L, upV d q = L := ⟨_, rfl⟩
 obtain ⟨UF, hUF⟩ : ∃ L, ltV d.f q.f = L := ⟨_, rfl⟩
 obtain ⟨UC, hUC⟩ : ∃ L, cmV d.c q.c = L := ⟨_, rfl⟩
 obtain ⟨bh, hbh⟩ : ∃ b, s.has = b := ⟨_, rfl⟩
 obtain ⟨nl, hnl⟩ : ∃ b, s.last = b := ⟨_, rfl⟩
 obtain ⟨nt, hnt⟩ : ∃ b, s.this = b := ⟨_, rfl⟩
 obtain ⟨bf, hbf⟩ : ∃ b, s.forced = b := ⟨_, rfl⟩
 rw [hXA] at KW KA h9 oA ⊢
 rw [hXB] at KB KC h9 oB ⊢
 rw [hXC] at h9 oC ⊢
 rw [hXD] at KK h9 on ⊢
 rw [hXE] at h9 ⊢
 rw [hLU] at u9 u12 HLn ⊢
 rw [hUF] at KI KA KB KC u12 o9 HLn ⊢
 rw [hUC] at u9 oc HLn ⊢
 rw [hbh, hnl, hnt, hbf]
 have KCn := KC an
 obtain ⟨XN, hXN⟩ : ∃ L, (if an = true then UF else XB) = L := ⟨_, rfl⟩
 have eN : (if an = true then UF.toArray else XB.toArray) = XN.toArray := by rw [← hXN]; cases an <;> rfl
 rw [eN] at KCn
 have lXN : XN.length = 9 := by rw [← hXN]; cases an; exact h9.b; exact HLn.out.2.1
 have oXN : ∀ v ∈ XN, v.oneCell' = true := by rw [← hXN]; cases an; exact oB; exact o9
 have HXN : Hid _ := hXN
 clear KC hXN eN
 clear hXA hXB hXC hXD hXE hLU hUF hUC hbh hnl hnt hbf hk ha hb hwas hnow e1 e2 e3 e4 hs0 hd
 obtain ⟨L0, hL0⟩ : ∃ L, st9 XA XB XC XD XE bh nl nt bf = L := ⟨_, rfl⟩
 obtain ⟨ANS, hANS⟩ : ∃ A, (st9 (if ab = true then UF else XA) (if (ab && an) = true then UF else XB) (if (kn && decide (now = was + 1)) = true then XD else XC) (if (!kn && decide (now = was) || kn && decide (now = was + 1)) = true then UC else XD) (upV zUp nU) false (if (kn && decide (now = was + 1)) = true then nt else nl) (if (kn && decide (now = was + 1)) = true then 0 else nt) bf).toArray = A := ⟨_, rfl⟩
 rw [hANS]
 have HANS : Hid _ := hANS
 clear hANS
 have g0 := st9_A (B := XB) (C := XC) (D := XD) (E := XE) (h := bh) (l := nl) (t := nt) (f := bf) (A := XA)
 have g3 := st9_D (h := bh) (l := nl) (t := nt) (f := bf) h9
 have H0 : Hid (_) := hL0
 rw [hL0] at g0 g3 ⊢
 obtain ⟨BV, hx, hy, hz0, hs⟩ := box3 w (.cells L0.toArray 38) (.cells LU.toArray 33) (.cells zSA 38)
 obtain ⟨V, hV⟩ : ∃ V, ((w.alloc (.cells L0.toArray 38)).alloc (.cells LU.toArray 33)).alloc (.cells zSA 38) = V := ⟨_, rfl⟩
 obtain ⟨z, hz⟩ : ∃ z, w.heap.size = z := ⟨_, rfl⟩
 have HZ : Hid (w.heap.size = z) := hz
 rw [hV] at BV hx hy hz0 hs
 rw [hz] at BV hx hy hz0 hs
 have QN := jbl (jac hx 20 XD g3) (by omega)
 have QF := jbl (jac hx 0 XA g0) (by omega)
 have QU := jbl (jac hy 12 UF u12) (by omega)
 have c1 := jae (w := V) KK
 have c2 := jae (w := V) KW
 have c3 := jae (w := V) KI
 have H9 : Hid _ := h9
 have HX : Hid (_ ∧ _ ∧ _ ∧ _ ∧ _) := ⟨BV, hx, hy, hz0, hs⟩
 have sD : Hid (XD.length = 2 ∧ XA.length = 9 ∧ UF.length = 9) := show _ from ⟨h9.d, h9.a, HLn.out.2.1⟩
 have zV : z + 3 ≤ V.heap.size := by omega
 clear hL0 hx hy hz0 hs h9 g0 g3
 go_enter Tryz.func30, Tryz.ntmps30
 go_wp2_with fail
 first | rw [hV] | skip
 first | rw [hz] | skip
 clear hV hz
 refine wp_region_quiet_below (by kernel_rfl) (by kernel_rfl) ?_
 refine Stp.out ?_
 iterate 1 (refine jag (fun K hK => ?_); go_simp; refine hK _ ?_; clear hK K)
 refine jak (by kernel_rfl) 31 _ rfl _ _ rfl _ _ QN Tryz.underlying31 rfl (by rw [sD.out.1]; kernel_rfl) ?_
 refine jag (fun K hK => ?_)
 go_simp
 apply Exists.intro
 refine ⟨fun _ => ?_, hK _ ?_⟩
 exact c1 _ _
 clear hK K
 iterate 1 (refine jag (fun K hK => ?_); go_simp; refine hK _ ?_; clear hK K)
 refine jak (by kernel_rfl) 29 _ rfl _ _ rfl _ _ QF Tryz.underlying29 rfl (by rw [sD.out.2.1]; kernel_rfl) ?_
 refine jag (fun K hK => ?_)
 go_simp
 apply Exists.intro
 refine ⟨fun _ => ?_, hK _ ?_⟩
 exact c2 _ _
 clear hK K
 iterate 1 (refine jag (fun K hK => ?_); go_simp; refine hK _ ?_; clear hK K)
 refine jak (by kernel_rfl) 29 _ rfl _ _ rfl _ _ QU Tryz.underlying29 rfl (by rw [sD.out.2.2]; kernel_rfl) ?_
 refine jag (fun K hK => ?_)
 go_simp
 apply Exists.intro
 refine ⟨fun _ => ?_, hK _ ?_⟩
 exact c3 _ _
 clear hK K
 iterate 3 (refine jag (fun K hK => ?_); go_simp; refine hK _ ?_; clear hK K)
 refine ⟨wpQuiet_nil ?_⟩
 intro V1 hV1
 have cB1 : Below V.heap.size V V1 := by
  obtain ⟨p, rfl⟩ := hV1
  exact below_regrown _ _ _
 have B1 : Below z w V1 := by
  obtain ⟨p, rfl⟩ := hV1
  exact jaa BV (by have := BV.size; omega) (below_regrown V p.d p.os)
 clear hV1
 clear QN QF QU c1 c2 c3 KK KW KI
 obtain ⟨BV, hx, hy, hz0, hs⟩ := HX.out
 have x1 : Bq z 38 L0.toArray V1 := (cB1.block z (by omega)).trans hx
 have y1 : Bq (z + 1) 33 LU.toArray V1 := (cB1.block (z + 1) (by omega)).trans hy
 have z1 : Bq (z + 2) 38 _ V1 := (cB1.block (z + 2) (by omega)).trans hz0
 have s1 : z + 3 ≤ V1.heap.size := by have := cB1.size; omega
 clear HX BV hx hy hz0 hs cB1
 rw [← H0.out] at x1
 clear H0
 have HB1 : Hid (Below z w V1) := B1
 have UC9 := jac y1 9 UC u9
 clear B1
 cases kn with
 | false =>
  by_cases h : now = was
  ·subst h
   have he : ((now : Int) == (now : Int)) = true := beq_self_eq_true _
   have eA : Hid ((!false && decide (now = now)) = true) := show (!false && decide (now = now)) = true by simp
   have eB : Hid ((false && decide (now = now + 1)) = false) := show _ from rfl
   have ht : V1.there z 20 UC.length := jai x1 (by rw [HLn.out.2.2, jaz H9.out]; omega)
   go_wp2_with (first | (refine wpList_load_mid rfl 31 _ rfl (z + 1) 9 rfl _ _ UC9 Tryz.underlying31 rfl (by rw [HLn.out.2.2]; kernel_rfl) ?_) | (refine jab (by rfl) 31 _ rfl (z + 1) 9 rfl _ _ UC9 Tryz.underlying31 rfl (by rw [HLn.out.2.2]; kernel_rfl) ?_) | (refine jat rfl rfl 31 _ _ rfl z 20 UC rfl rfl ht (by rw [HLn.out.2.2]; kernel_rfl) oc ?_; refine Stp.out ?_))
   refine ⟨?_⟩
   have x2 := st9_putD H9.out HLn.out.2.2 x1
   have y2 : Bq (z + 1) 33 LU.toArray (V1.setCells z 20 UC) := (jad (by omega) _ _ _).trans y1
   have z2 : Bq (z + 2) 38 _ (V1.setCells z 20 UC) := (jad (by omega) _ _ _).trans z1
   have s2 : z + 3 ≤ (V1.setCells z 20 UC).heap.size := by rw [jaj]; exact s1
   have HB2 : Hid (Below z w (V1.setCells z 20 UC)) := jaq HB1.out (Nat.le_refl _) _
   obtain ⟨V2, hV2⟩ : ∃ W, V1.setCells z 20 UC = W := ⟨_, rfl⟩
   rw [hV2] at x2 y2 z2 s2 HB2 ⊢
   clear hV2 x1 y1 z1 s1 HB1
   clear ht UC9
   have h9D : L9 XA XB XC UC XE := ⟨H9.out.a, H9.out.b, H9.out.c, HLn.out.2.2, H9.out.e⟩
   have RU := jac y2 12 UF u12
   have RS := jac x2 0 XA st9_A
   go_wp2_with (first | (refine wpList_load_mid rfl 29 _ rfl (z + 1) 12 rfl _ _ RU Tryz.underlying29 rfl (by rw [HLn.out.2.1]; kernel_rfl) ?_) | (refine jab (by rfl) 29 _ rfl (z + 1) 12 rfl _ _ RU Tryz.underlying29 rfl (by rw [HLn.out.2.1]; kernel_rfl) ?_) | (refine wpList_load_mid rfl 29 _ rfl z 0 rfl _ _ RS Tryz.underlying29 rfl (by rw [sD.out.2.1]; kernel_rfl) ?_) | (refine jab (by rfl) 29 _ rfl z 0 rfl _ _ RS Tryz.underlying29 rfl (by rw [sD.out.2.1]; kernel_rfl) ?_))
   refine (KA _).mono ?_
   rintro e V3 ⟨rfl, C⟩
   have x3 := x2.below C
   have y3 : Bq (z + 1) 33 LU.toArray V3 := y2.below C
   have z3 := z2.below C
   have s3 : z + 3 ≤ V3.heap.size := by have := C.size; omega
   have HB3 : Hid (Below z w V3) := jaa HB2.out (by omega) C
   clear C x2 y2 z2 s2 HB2
   clear RU RS KA
   cases ab with
   | false =>
    clear KB KCn
    have ht : V3.there z 22 (zUL : List Value).length := jai x3 (by rw [jaz h9D]; exact (by decide))
    go_wp2_with (first | (refine jat rfl rfl 33 _ _ rfl z 22 zUL rfl rfl ht (by kernel_rfl) (jbj zUp nU) ?_; refine Stp.out ?_))
    refine ⟨?_⟩
    have x4 := (jcw h9D (X := zUL) rfl) x3
    have y4 : Bq (z + 1) 33 LU.toArray (V3.setCells z 22 zUL) := (jad (by omega) _ _ _).trans y3
    have z4 : Bq (z + 2) 38 _ (V3.setCells z 22 zUL) := (jad (by omega) _ _ _).trans z3
    have s4 : z + 3 ≤ (V3.setCells z 22 zUL).heap.size := by rw [jaj]; exact s3
    have HB4 : Hid (Below z w (V3.setCells z 22 zUL)) := jaq HB3.out (Nat.le_refl _) _
    obtain ⟨V4, hV4⟩ : ∃ W, V3.setCells z 22 zUL = W := ⟨_, rfl⟩
    rw [hV4] at x4 y4 z4 s4 HB4 ⊢
    clear hV4 x3 y3 z3 s3 HB3
    have h9e : L9 XA XB XC UC zUL := ⟨h9D.a, h9D.b, h9D.c, h9D.d, rfl⟩
    have c47 : V4.cell? ⟨z, 47, none⟩ = some (.bool bh) := jaf x4 47 _ (st9_h h9e)
    have f47 : V4.frozen? ⟨z, 47, none⟩ = false := Bq.fr x4 47
    have xF := jcv h9e false x4
    have zF : Bq (z + 2) 38 _ (V4.setCell ⟨z, 47, none⟩ (.bool false)) := (Below.heap_setCell _ _ _ _ (show z + 2 ≠ z by omega)).trans z4
    have bF : Hid (Below z w (V4.setCell ⟨z, 47, none⟩ (.bool false))) := HB4.out.setCell (p := ⟨z, 47, none⟩) (Nat.le_refl _) _
    have hone : Hid ((st9 XA XB XC UC zUL false nl nt bf).toArray.all (·.oneCell') = true) := show _ from (by
     refine jba (jel ?_ ?_ ?_ ?_ (jbj zUp nU) _ _ _ _) <;> assumption)
    have hQ : Hid ((st9 XA XB XC UC zUL false nl nt bf).toArray.size = 51) := show _ by rw [List.size_toArray]; exact jaz h9e
    obtain ⟨F9, hF9⟩ : ∃ F, (st9 XA XB XC UC zUL false nl nt bf).toArray = F := ⟨_, rfl⟩
    rw [hF9] at xF hQ hone
    have HF : Hid _ := hF9
    have HZF : Hid _ := zF
    clear hF9 x4 y4 z4 s4 ht h9e
    go_wp2_with (first | (refine wpList_load_row rfl 38 _ rfl z rfl _ _ _ _ xF Tryz.underlying38 rfl (by rw [hQ.out]; kernel_rfl) ?_) | (refine jao rfl rfl 38 _ _ rfl (z + 2) _ rfl rfl 38 _ zF (by rw [hQ.out]; kernel_rfl) (by rw [hQ.out]; rfl) hone.out ?_))
    refine bodyPost_ret (results_cell_row rfl _ _ (z + 2) 38 _ (0, 0) _ rfl (Bq.row (show Bq (z + 2) 38 _ _ from HZF.out) F9) Tryz.underlying38 rfl (by rw [hQ.out]; kernel_rfl)) rfl ⟨?_, ?_⟩
    ·rw [← HF.out]
     have HN := HANS.out
     rw [eA.out, eB.out] at HN
     exact congrArg (fun a => Ending.returned (Value.agg a)) HN
    ·rw [HZ.out]
     exact jas bF.out (by omega) F9
   | true =>
    have RU := jac y3 12 UF u12
    have ht : V3.there z 0 UF.length := jai x3 (by rw [HLn.out.2.1, jaz h9D]; omega)
    go_wp2_with (first | (refine wpList_load_mid rfl 29 _ rfl (z + 1) 12 rfl _ _ RU Tryz.underlying29 rfl (by rw [HLn.out.2.1]; kernel_rfl) ?_) | (refine jab (by rfl) 29 _ rfl (z + 1) 12 rfl _ _ RU Tryz.underlying29 rfl (by rw [HLn.out.2.1]; kernel_rfl) ?_) | (refine jat rfl rfl 29 _ _ rfl z 0 UF rfl rfl ht (by rw [HLn.out.2.1]; kernel_rfl) o9 ?_; refine Stp.out ?_))
    refine ⟨?_⟩
    have x4 := st9_putA h9D HLn.out.2.1 x3
    have y4 : Bq (z + 1) 33 LU.toArray (V3.setCells z 0 UF) := (jad (by omega) _ _ _).trans y3
    have z4 : Bq (z + 2) 38 _ (V3.setCells z 0 UF) := (jad (by omega) _ _ _).trans z3
    have s4 : z + 3 ≤ (V3.setCells z 0 UF).heap.size := by rw [jaj]; exact s3
    have HB4 : Hid (Below z w (V3.setCells z 0 UF)) := jaq HB3.out (Nat.le_refl _) _
    obtain ⟨V4, hV4⟩ : ∃ W, V3.setCells z 0 UF = W := ⟨_, rfl⟩
    rw [hV4] at x4 y4 z4 s4 HB4 ⊢
    clear hV4 x3 y3 z3 s3 HB3
    clear RU ht
    have h9_ := L9.mk HLn.out.2.1 h9D.b h9D.c h9D.d h9D.e
    have QU := jbl (jac y4 12 UF u12) (by omega)
    have QB := jbl (jac x4 9 XB (st9_B h9_)) (by omega)
    have c4 := jae (w := V4) KB
    have c5 := jae (w := V4) KCn
    have BV := HB4.out
    go_wp2_with fail
    refine jar 11 (by kernel_rfl) (by kernel_rfl) ?_
    simp only [List.take_succ_cons, List.take_zero, List.drop_succ_cons, List.drop_zero]
    refine Stp.out ?_
    iterate 1 (refine jag (fun K hK => ?_); go_simp; refine hK _ ?_; clear hK K)
    refine jak (by kernel_rfl) 29 _ rfl _ _ rfl _ _ QU Tryz.underlying29 rfl (by rw [HLn.out.2.1]; kernel_rfl) ?_
    iterate 1 (refine jag (fun K hK => ?_); go_simp; refine hK _ ?_; clear hK K)
    refine jak (by kernel_rfl) 29 _ rfl _ _ rfl _ _ QB Tryz.underlying29 rfl (by rw [H9.out.b]; kernel_rfl) ?_
    refine jag (fun K hK => ?_)
    go_simp
    apply Exists.intro
    refine ⟨fun _ => ?_, hK _ ?_⟩
    exact c4 _ _
    clear hK K
    iterate 1 (refine jag (fun K hK => ?_); go_simp; refine hK _ ?_; clear hK K)
    refine jak (by kernel_rfl) 29 _ rfl _ _ rfl _ _ QU Tryz.underlying29 rfl (by rw [HLn.out.2.1]; kernel_rfl) ?_
    iterate 1 (refine jag (fun K hK => ?_); go_simp; refine hK _ ?_; clear hK K)
    refine jak (by kernel_rfl) 29 _ rfl _ _ rfl _ _ QB Tryz.underlying29 rfl (by rw [H9.out.b]; kernel_rfl) ?_
    refine jag (fun K hK => ?_)
    go_simp
    apply Exists.intro
    refine ⟨fun _ => ?_, hK _ ?_⟩
    exact c5 _ _
    clear hK K
    iterate 1 (refine jag (fun K hK => ?_); go_simp; refine hK _ ?_; clear hK K)
    refine ⟨wpQuiet_nil ?_⟩
    intro V5 hV5
    have cB5 : Below V4.heap.size V4 V5 := by
     obtain ⟨p, rfl⟩ := hV5
     exact below_regrown _ _ _
    have B5 : Below z w V5 := by
     obtain ⟨p, rfl⟩ := hV5
     exact jaa BV (by have := BV.size; omega) (below_regrown V4 p.d p.os)
    clear hV5
    have C := cB5
    have x5 := x4.below C
    have y5 : Bq (z + 1) 33 LU.toArray V5 := y4.below C
    have z5 := z4.below C
    have s5 : z + 3 ≤ V5.heap.size := by have := C.size; omega
    have HB5 : Hid (Below z w V5) := jaa HB4.out (by omega) C
    clear C cB5 BV B5 QU QB c4 c5 KB KCn x4 y4 z4 s4 HB4
    have ht : V5.there z 9 XN.length := jai x5 (by rw [lXN, jaz h9_]; omega)
    go_wp2_with (first | (refine jat rfl rfl 29 _ _ rfl z 9 XN rfl rfl ht (by rw [lXN]; kernel_rfl) oXN ?_; refine Stp.out ?_))
    refine ⟨?_⟩
    have x6 := jdp h9_ lXN x5
    have y6 : Bq (z + 1) 33 LU.toArray (V5.setCells z 9 XN) := (jad (by omega) _ _ _).trans y5
    have z6 : Bq (z + 2) 38 _ (V5.setCells z 9 XN) := (jad (by omega) _ _ _).trans z5
    have s6 : z + 3 ≤ (V5.setCells z 9 XN).heap.size := by rw [jaj]; exact s5
    have HB6 : Hid (Below z w (V5.setCells z 9 XN)) := jaq HB5.out (Nat.le_refl _) _
    obtain ⟨V6, hV6⟩ : ∃ W, V5.setCells z 9 XN = W := ⟨_, rfl⟩
    rw [hV6] at x6 y6 z6 s6 HB6 ⊢
    clear hV6 x5 y5 z5 s5 HB5
    clear ht
    have h9f : L9 UF XN XC UC XE := ⟨h9_.a, lXN, h9_.c, h9_.d, h9_.e⟩
    have ht : V6.there z 22 (zUL : List Value).length := jai x6 (by rw [jaz h9f]; exact (by decide))
    go_wp2_with (first | (refine jat rfl rfl 33 _ _ rfl z 22 zUL rfl rfl ht (by kernel_rfl) (jbj zUp nU) ?_; refine Stp.out ?_))
    refine ⟨?_⟩
    have x7 := (jcw h9f (X := zUL) rfl) x6
    have y7 : Bq (z + 1) 33 LU.toArray (V6.setCells z 22 zUL) := (jad (by omega) _ _ _).trans y6
    have z7 : Bq (z + 2) 38 _ (V6.setCells z 22 zUL) := (jad (by omega) _ _ _).trans z6
    have s7 : z + 3 ≤ (V6.setCells z 22 zUL).heap.size := by rw [jaj]; exact s6
    have HB7 : Hid (Below z w (V6.setCells z 22 zUL)) := jaq HB6.out (Nat.le_refl _) _
    obtain ⟨V7, hV7⟩ : ∃ W, V6.setCells z 22 zUL = W := ⟨_, rfl⟩
    rw [hV7] at x7 y7 z7 s7 HB7 ⊢
    clear hV7 x6 y6 z6 s6 HB6
    have h9e : L9 UF XN XC UC zUL := ⟨h9f.a, h9f.b, h9f.c, h9f.d, rfl⟩
    have c47 : V7.cell? ⟨z, 47, none⟩ = some (.bool bh) := jaf x7 47 _ (st9_h h9e)
    have f47 : V7.frozen? ⟨z, 47, none⟩ = false := Bq.fr x7 47
    have xF := jcv h9e false x7
    have zF : Bq (z + 2) 38 _ (V7.setCell ⟨z, 47, none⟩ (.bool false)) := (Below.heap_setCell _ _ _ _ (show z + 2 ≠ z by omega)).trans z7
    have bF : Hid (Below z w (V7.setCell ⟨z, 47, none⟩ (.bool false))) := HB7.out.setCell (p := ⟨z, 47, none⟩) (Nat.le_refl _) _
    have hone : Hid ((st9 UF XN XC UC zUL false nl nt bf).toArray.all (·.oneCell') = true) := show _ from (by
     refine jba (jel ?_ ?_ ?_ ?_ (jbj zUp nU) _ _ _ _) <;> assumption)
    have hQ : Hid ((st9 UF XN XC UC zUL false nl nt bf).toArray.size = 51) := show _ by rw [List.size_toArray]; exact jaz h9e
    obtain ⟨F9, hF9⟩ : ∃ F, (st9 UF XN XC UC zUL false nl nt bf).toArray = F := ⟨_, rfl⟩
    rw [hF9] at xF hQ hone
    have HF : Hid _ := hF9
    have HZF : Hid _ := zF
    clear hF9 x7 y7 z7 s7 ht h9e
    go_wp2_with (first | (refine wpList_load_row rfl 38 _ rfl z rfl _ _ _ _ xF Tryz.underlying38 rfl (by rw [hQ.out]; kernel_rfl) ?_) | (refine jao rfl rfl 38 _ _ rfl (z + 2) _ rfl rfl 38 _ zF (by rw [hQ.out]; kernel_rfl) (by rw [hQ.out]; rfl) hone.out ?_))
    refine bodyPost_ret (results_cell_row rfl _ _ (z + 2) 38 _ (0, 0) _ rfl (Bq.row (show Bq (z + 2) 38 _ _ from HZF.out) F9) Tryz.underlying38 rfl (by rw [hQ.out]; kernel_rfl)) rfl ⟨?_, ?_⟩
    ·rw [← HF.out]
     have HN := HANS.out
     rw [eA.out, eB.out] at HN
     rw [Bool.true_and, HXN.out] at HN
     exact congrArg (fun a => Ending.returned (Value.agg a)) HN
    ·rw [HZ.out]
     exact jas bF.out (by omega) F9
  ·have he : ((now : Int) == (was : Int)) = false := by rw [beq_eq_false_iff_ne]; omega
   have eA : Hid ((!false && decide (now = was)) = false) := show (!false && decide (now = was)) = false by simp [h]
   have eB : Hid ((false && decide (now = was + 1)) = false) := show _ from rfl
   clear UC9
   have RU := jac y1 12 UF u12
   have RS := jac x1 0 XA st9_A
   go_wp2_with (first | (refine wpList_load_mid rfl 29 _ rfl (z + 1) 12 rfl _ _ RU Tryz.underlying29 rfl (by rw [HLn.out.2.1]; kernel_rfl) ?_) | (refine jab (by rfl) 29 _ rfl (z + 1) 12 rfl _ _ RU Tryz.underlying29 rfl (by rw [HLn.out.2.1]; kernel_rfl) ?_) | (refine wpList_load_mid rfl 29 _ rfl z 0 rfl _ _ RS Tryz.underlying29 rfl (by rw [sD.out.2.1]; kernel_rfl) ?_) | (refine jab (by rfl) 29 _ rfl z 0 rfl _ _ RS Tryz.underlying29 rfl (by rw [sD.out.2.1]; kernel_rfl) ?_))
   refine (KA _).mono ?_
   rintro e V2 ⟨rfl, C⟩
   have x2 := x1.below C
   have y2 : Bq (z + 1) 33 LU.toArray V2 := y1.below C
   have z2 := z1.below C
   have s2 : z + 3 ≤ V2.heap.size := by have := C.size; omega
   have HB2 : Hid (Below z w V2) := jaa HB1.out (by omega) C
   clear C x1 y1 z1 s1 HB1
   clear RU RS KA
   cases ab with
   | false =>
    clear KB KCn
    have ht : V2.there z 22 (zUL : List Value).length := jai x2 (by rw [jaz H9.out]; exact (by decide))
    go_wp2_with (first | (refine jat rfl rfl 33 _ _ rfl z 22 zUL rfl rfl ht (by kernel_rfl) (jbj zUp nU) ?_; refine Stp.out ?_))
    refine ⟨?_⟩
    have x3 := (jcw H9.out (X := zUL) rfl) x2
    have y3 : Bq (z + 1) 33 LU.toArray (V2.setCells z 22 zUL) := (jad (by omega) _ _ _).trans y2
    have z3 : Bq (z + 2) 38 _ (V2.setCells z 22 zUL) := (jad (by omega) _ _ _).trans z2
    have s3 : z + 3 ≤ (V2.setCells z 22 zUL).heap.size := by rw [jaj]; exact s2
    have HB3 : Hid (Below z w (V2.setCells z 22 zUL)) := jaq HB2.out (Nat.le_refl _) _
    obtain ⟨V3, hV3⟩ : ∃ W, V2.setCells z 22 zUL = W := ⟨_, rfl⟩
    rw [hV3] at x3 y3 z3 s3 HB3 ⊢
    clear hV3 x2 y2 z2 s2 HB2
    have h9e : L9 XA XB XC XD zUL := ⟨H9.out.a, H9.out.b, H9.out.c, H9.out.d, rfl⟩
    have c47 : V3.cell? ⟨z, 47, none⟩ = some (.bool bh) := jaf x3 47 _ (st9_h h9e)
    have f47 : V3.frozen? ⟨z, 47, none⟩ = false := Bq.fr x3 47
    have xF := jcv h9e false x3
    have zF : Bq (z + 2) 38 _ (V3.setCell ⟨z, 47, none⟩ (.bool false)) := (Below.heap_setCell _ _ _ _ (show z + 2 ≠ z by omega)).trans z3
    have bF : Hid (Below z w (V3.setCell ⟨z, 47, none⟩ (.bool false))) := HB3.out.setCell (p := ⟨z, 47, none⟩) (Nat.le_refl _) _
    have hone : Hid ((st9 XA XB XC XD zUL false nl nt bf).toArray.all (·.oneCell') = true) := show _ from (by
     refine jba (jel ?_ ?_ ?_ ?_ (jbj zUp nU) _ _ _ _) <;> assumption)
    have hQ : Hid ((st9 XA XB XC XD zUL false nl nt bf).toArray.size = 51) := show _ by rw [List.size_toArray]; exact jaz h9e
    obtain ⟨F9, hF9⟩ : ∃ F, (st9 XA XB XC XD zUL false nl nt bf).toArray = F := ⟨_, rfl⟩
    rw [hF9] at xF hQ hone
    have HF : Hid _ := hF9
    have HZF : Hid _ := zF
    clear hF9 x3 y3 z3 s3 ht h9e
    go_wp2_with (first | (refine wpList_load_row rfl 38 _ rfl z rfl _ _ _ _ xF Tryz.underlying38 rfl (by rw [hQ.out]; kernel_rfl) ?_) | (refine jao rfl rfl 38 _ _ rfl (z + 2) _ rfl rfl 38 _ zF (by rw [hQ.out]; kernel_rfl) (by rw [hQ.out]; rfl) hone.out ?_))
    refine bodyPost_ret (results_cell_row rfl _ _ (z + 2) 38 _ (0, 0) _ rfl (Bq.row (show Bq (z + 2) 38 _ _ from HZF.out) F9) Tryz.underlying38 rfl (by rw [hQ.out]; kernel_rfl)) rfl ⟨?_, ?_⟩
    ·rw [← HF.out]
     have HN := HANS.out
     rw [eA.out, eB.out] at HN
     exact congrArg (fun a => Ending.returned (Value.agg a)) HN
    ·rw [HZ.out]
     exact jas bF.out (by omega) F9
   | true =>
    have RU := jac y2 12 UF u12
    have ht : V2.there z 0 UF.length := jai x2 (by rw [HLn.out.2.1, jaz H9.out]; omega)
    go_wp2_with (first | (refine wpList_load_mid rfl 29 _ rfl (z + 1) 12 rfl _ _ RU Tryz.underlying29 rfl (by rw [HLn.out.2.1]; kernel_rfl) ?_) | (refine jab (by rfl) 29 _ rfl (z + 1) 12 rfl _ _ RU Tryz.underlying29 rfl (by rw [HLn.out.2.1]; kernel_rfl) ?_) | (refine jat rfl rfl 29 _ _ rfl z 0 UF rfl rfl ht (by rw [HLn.out.2.1]; kernel_rfl) o9 ?_; refine Stp.out ?_))
    refine ⟨?_⟩
    have x3 := st9_putA H9.out HLn.out.2.1 x2
    have y3 : Bq (z + 1) 33 LU.toArray (V2.setCells z 0 UF) := (jad (by omega) _ _ _).trans y2
    have z3 : Bq (z + 2) 38 _ (V2.setCells z 0 UF) := (jad (by omega) _ _ _).trans z2
    have s3 : z + 3 ≤ (V2.setCells z 0 UF).heap.size := by rw [jaj]; exact s2
    have HB3 : Hid (Below z w (V2.setCells z 0 UF)) := jaq HB2.out (Nat.le_refl _) _
    obtain ⟨V3, hV3⟩ : ∃ W, V2.setCells z 0 UF = W := ⟨_, rfl⟩
    rw [hV3] at x3 y3 z3 s3 HB3 ⊢
    clear hV3 x2 y2 z2 s2 HB2
    clear RU ht
    have h9_ := L9.mk HLn.out.2.1 H9.out.b H9.out.c H9.out.d H9.out.e
    have QU := jbl (jac y3 12 UF u12) (by omega)
    have QB := jbl (jac x3 9 XB (st9_B h9_)) (by omega)
    have c4 := jae (w := V3) KB
    have c5 := jae (w := V3) KCn
    have BV := HB3.out
    go_wp2_with fail
    refine jar 11 (by kernel_rfl) (by kernel_rfl) ?_
    simp only [List.take_succ_cons, List.take_zero, List.drop_succ_cons, List.drop_zero]
    refine Stp.out ?_
    iterate 1 (refine jag (fun K hK => ?_); go_simp; refine hK _ ?_; clear hK K)
    refine jak (by kernel_rfl) 29 _ rfl _ _ rfl _ _ QU Tryz.underlying29 rfl (by rw [HLn.out.2.1]; kernel_rfl) ?_
    iterate 1 (refine jag (fun K hK => ?_); go_simp; refine hK _ ?_; clear hK K)
    refine jak (by kernel_rfl) 29 _ rfl _ _ rfl _ _ QB Tryz.underlying29 rfl (by rw [H9.out.b]; kernel_rfl) ?_
    refine jag (fun K hK => ?_)
    go_simp
    apply Exists.intro
    refine ⟨fun _ => ?_, hK _ ?_⟩
    exact c4 _ _
    clear hK K
    iterate 1 (refine jag (fun K hK => ?_); go_simp; refine hK _ ?_; clear hK K)
    refine jak (by kernel_rfl) 29 _ rfl _ _ rfl _ _ QU Tryz.underlying29 rfl (by rw [HLn.out.2.1]; kernel_rfl) ?_
    iterate 1 (refine jag (fun K hK => ?_); go_simp; refine hK _ ?_; clear hK K)
    refine jak (by kernel_rfl) 29 _ rfl _ _ rfl _ _ QB Tryz.underlying29 rfl (by rw [H9.out.b]; kernel_rfl) ?_
    refine jag (fun K hK => ?_)
    go_simp
    apply Exists.intro
    refine ⟨fun _ => ?_, hK _ ?_⟩
    exact c5 _ _
    clear hK K
    iterate 1 (refine jag (fun K hK => ?_); go_simp; refine hK _ ?_; clear hK K)
    refine ⟨wpQuiet_nil ?_⟩
    intro V4 hV4
    have cB4 : Below V3.heap.size V3 V4 := by
     obtain ⟨p, rfl⟩ := hV4
     exact below_regrown _ _ _
    have B4 : Below z w V4 := by
     obtain ⟨p, rfl⟩ := hV4
     exact jaa BV (by have := BV.size; omega) (below_regrown V3 p.d p.os)
    clear hV4
    have C := cB4
    have x4 := x3.below C
    have y4 : Bq (z + 1) 33 LU.toArray V4 := y3.below C
    have z4 := z3.below C
    have s4 : z + 3 ≤ V4.heap.size := by have := C.size; omega
    have HB4 : Hid (Below z w V4) := jaa HB3.out (by omega) C
    clear C cB4 BV B4 QU QB c4 c5 KB KCn x3 y3 z3 s3 HB3
    have ht : V4.there z 9 XN.length := jai x4 (by rw [lXN, jaz h9_]; omega)
    go_wp2_with (first | (refine jat rfl rfl 29 _ _ rfl z 9 XN rfl rfl ht (by rw [lXN]; kernel_rfl) oXN ?_; refine Stp.out ?_))
    refine ⟨?_⟩
    have x5 := jdp h9_ lXN x4
    have y5 : Bq (z + 1) 33 LU.toArray (V4.setCells z 9 XN) := (jad (by omega) _ _ _).trans y4
    have z5 : Bq (z + 2) 38 _ (V4.setCells z 9 XN) := (jad (by omega) _ _ _).trans z4
    have s5 : z + 3 ≤ (V4.setCells z 9 XN).heap.size := by rw [jaj]; exact s4
    have HB5 : Hid (Below z w (V4.setCells z 9 XN)) := jaq HB4.out (Nat.le_refl _) _
    obtain ⟨V5, hV5⟩ : ∃ W, V4.setCells z 9 XN = W := ⟨_, rfl⟩
    rw [hV5] at x5 y5 z5 s5 HB5 ⊢
    clear hV5 x4 y4 z4 s4 HB4
    clear ht
    have h9f : L9 UF XN XC XD XE := ⟨h9_.a, lXN, h9_.c, h9_.d, h9_.e⟩
    have ht : V5.there z 22 (zUL : List Value).length := jai x5 (by rw [jaz h9f]; exact (by decide))
    go_wp2_with (first | (refine jat rfl rfl 33 _ _ rfl z 22 zUL rfl rfl ht (by kernel_rfl) (jbj zUp nU) ?_; refine Stp.out ?_))
    refine ⟨?_⟩
    have x6 := (jcw h9f (X := zUL) rfl) x5
    have y6 : Bq (z + 1) 33 LU.toArray (V5.setCells z 22 zUL) := (jad (by omega) _ _ _).trans y5
    have z6 : Bq (z + 2) 38 _ (V5.setCells z 22 zUL) := (jad (by omega) _ _ _).trans z5
    have s6 : z + 3 ≤ (V5.setCells z 22 zUL).heap.size := by rw [jaj]; exact s5
    have HB6 : Hid (Below z w (V5.setCells z 22 zUL)) := jaq HB5.out (Nat.le_refl _) _
    obtain ⟨V6, hV6⟩ : ∃ W, V5.setCells z 22 zUL = W := ⟨_, rfl⟩
    rw [hV6] at x6 y6 z6 s6 HB6 ⊢
    clear hV6 x5 y5 z5 s5 HB5
    have h9e : L9 UF XN XC XD zUL := ⟨h9f.a, h9f.b, h9f.c, h9f.d, rfl⟩
    have c47 : V6.cell? ⟨z, 47, none⟩ = some (.bool bh) := jaf x6 47 _ (st9_h h9e)
    have f47 : V6.frozen? ⟨z, 47, none⟩ = false := Bq.fr x6 47
    have xF := jcv h9e false x6
    have zF : Bq (z + 2) 38 _ (V6.setCell ⟨z, 47, none⟩ (.bool false)) := (Below.heap_setCell _ _ _ _ (show z + 2 ≠ z by omega)).trans z6
    have bF : Hid (Below z w (V6.setCell ⟨z, 47, none⟩ (.bool false))) := HB6.out.setCell (p := ⟨z, 47, none⟩) (Nat.le_refl _) _
    have hone : Hid ((st9 UF XN XC XD zUL false nl nt bf).toArray.all (·.oneCell') = true) := show _ from (by
     refine jba (jel ?_ ?_ ?_ ?_ (jbj zUp nU) _ _ _ _) <;> assumption)
    have hQ : Hid ((st9 UF XN XC XD zUL false nl nt bf).toArray.size = 51) := show _ by rw [List.size_toArray]; exact jaz h9e
    obtain ⟨F9, hF9⟩ : ∃ F, (st9 UF XN XC XD zUL false nl nt bf).toArray = F := ⟨_, rfl⟩
    rw [hF9] at xF hQ hone
    have HF : Hid _ := hF9
    have HZF : Hid _ := zF
    clear hF9 x6 y6 z6 s6 ht h9e
    go_wp2_with (first | (refine wpList_load_row rfl 38 _ rfl z rfl _ _ _ _ xF Tryz.underlying38 rfl (by rw [hQ.out]; kernel_rfl) ?_) | (refine jao rfl rfl 38 _ _ rfl (z + 2) _ rfl rfl 38 _ zF (by rw [hQ.out]; kernel_rfl) (by rw [hQ.out]; rfl) hone.out ?_))
    refine bodyPost_ret (results_cell_row rfl _ _ (z + 2) 38 _ (0, 0) _ rfl (Bq.row (show Bq (z + 2) 38 _ _ from HZF.out) F9) Tryz.underlying38 rfl (by rw [hQ.out]; kernel_rfl)) rfl ⟨?_, ?_⟩
    ·rw [← HF.out]
     have HN := HANS.out
     rw [eA.out, eB.out] at HN
     rw [Bool.true_and, HXN.out] at HN
     exact congrArg (fun a => Ending.returned (Value.agg a)) HN
    ·rw [HZ.out]
     exact jas bF.out (by omega) F9
 | true =>
  have wk : IntKind.u64.wrap ((was : Int) + 1) = ((was + 1 : Nat) : Int) := by rw [IntKind.wrap_u64]; omega
  by_cases h : now = was + 1
  ·subst h
   have he : (((was + 1 : Nat) : Int) == ((was + 1 : Nat) : Int)) = true := beq_self_eq_true _
   have eA : Hid ((!true && decide (was + 1 = was)) = false) := show _ from rfl
   have eB : Hid ((true && decide (was + 1 = was + 1)) = true) := show (true && decide (was + 1 = was + 1)) = true by simp
   have U9 := u9
   go_wp2_with fail
   have I0 : Mu5 w z XA XB XC XD XE LU UC bh nl nt bf (fun _ => false) undef undef undef undef undef V1.drew := ⟨jaa HB1.out (by omega) (Below.refl _ V1).drew, s1, x1.below (Below.refl _ V1).drew, y1.below (Below.refl _ V1).drew, z1.below (Below.refl _ V1).drew, nofun, nofun, nofun, nofun, nofun⟩
   clear x1 y1 z1 s1 HB1 UC9
   refine jaw 6 (fun S aa W => ∃ x36 x37 x38 x39 x40 : Value, aa = { tmps := #[Value.agg L0.toArray, Value.agg LU.toArray, Value.pointer (some { block := z, off := 0 }), Value.pointer (some { block := z + 1, off := 0 }), Value.pointer (some { block := z + 1 + 1, off := 0 }), Value.bool true, Value.int IntKind.u64 (was : Int), Value.int IntKind.u64 ((was : Int) + 1), Value.pointer (some { block := z, off := 20 }), Value.agg XD.toArray, Value.bool true, Value.pointer (some { block := z, off := 0 }), Value.agg XA.toArray, Value.int IntKind.u64 (was : Int), Value.pointer (some { block := z + 1, off := 12 }), Value.agg UF.toArray, Value.int IntKind.u64 ((was : Int) + 1), Value.bool false, Value.bool true, Value.bool false, Value.bool false, undef, undef, undef, Value.bool false, undef, undef, undef, Value.bool true, Value.bool true, Value.bool true, Value.int IntKind.u64 ((was : Int) + 1), Value.int IntKind.u64 (was : Int), Value.int IntKind.u64 ((was : Int) + 1), Value.bool true, Value.bool true, x36, x37, x38, x39, x40, undef, undef, undef, undef, undef, undef, undef, undef, undef, undef, undef, undef, undef, undef, undef, undef, undef, undef, undef, undef, undef, undef, undef, undef, undef, undef, undef, undef], defers := [] } ∧ Mu5 w z XA XB XC XD XE LU UC bh nl nt bf S x36 x37 x38 x39 x40 W) (by kernel_rfl) (by kernel_rfl) ?_ ?_ ?_
   ·exact ⟨undef, undef, undef, undef, undef, rfl, I0⟩
   ·intro i o S aa W hin hi hun hJ hall K hK
    obtain ⟨x36, x37, x38, x39, x40, rfl, h⟩ := hJ
    have hlt : i < 6 := hin
    have hcase : i = 0 ∨ i = 1 ∨ i = 2 ∨ i = 3 ∨ i = 4 ∨ i = 5 := by omega
    rcases hcase with rfl | rfl | rfl | rfl | rfl | rfl
    all_goals (have ho := (Option.some.inj hi).symm; subst ho; clear hi hlt hin)
    ·go_simp
     exact hK _ _ ⟨_, x37, x38, x39, x40, rfl, ⟨h.vb, h.vs, h.vx, h.vy, h.vz, fun _ => rfl, h.f1, h.f2, h.f3, h.f4⟩⟩
    ·have s_0 : S 0 = true := hall ⟨0, .data⟩ (by simp) rfl
     obtain rfl := h.f0 s_0
     have cW := jac h.vx 20 XD (st9_D (h.h9 H9.out sD.out.1))
     (rw [if_pos (by kernel_rfl)]; refine wp_load_mid 31 _ rfl z 20 rfl _ _ cW Tryz.underlying31 rfl (by rw [sD.out.1]; kernel_rfl) ?_)
     exact hK _ _ ⟨_, _, x38, x39, x40, rfl, ⟨h.vb, h.vs, h.vx, h.vy, h.vz, h.f0, fun _ => rfl, h.f2, h.f3, h.f4⟩⟩
    ·go_simp
     exact hK _ _ ⟨x36, x37, _, x39, x40, rfl, ⟨h.vb, h.vs, h.vx, h.vy, h.vz, h.f0, h.f1, fun _ => rfl, h.f3, h.f4⟩⟩
    ·have s_2 : S 2 = true := hall ⟨2, .data⟩ (by simp) rfl
     obtain rfl := h.f2 s_2
     have cW := jac h.vy 9 UC U9
     (rw [if_pos (by kernel_rfl)]; refine wp_load_mid 31 _ rfl (z + 1) 9 rfl _ _ cW Tryz.underlying31 rfl (by rw [HLn.out.2.2]; kernel_rfl) ?_)
     exact hK _ _ ⟨x36, x37, _, _, x40, rfl, ⟨h.vb, h.vs, h.vx, h.vy, h.vz, h.f0, h.f1, h.f2, fun _ => rfl, h.f4⟩⟩
    ·go_simp
     exact hK _ _ ⟨x36, x37, x38, x39, _, rfl, ⟨h.vb, h.vs, h.vx, h.vy, h.vz, h.f0, h.f1, h.f2, h.f3, fun _ => rfl⟩⟩
    ·have s_1 : S 1 = true := hall ⟨1, .data⟩ (by simp) rfl
     have s_4 : S 4 = true := hall ⟨4, .data⟩ (by simp) rfl
     obtain rfl := h.f1 s_1
     obtain rfl := h.f4 s_4
     have h1 := h.stored H9.out sD.out.1 hun
     have ht : W.there z 18 XD.length := jai h.vx (by rw [sD.out.1, jaz (h.h9 H9.out sD.out.1)]; omega)
     rw [if_pos (by kernel_rfl)]
     refine wp_store_mid 31 _ _ rfl z 18 XD.toArray rfl rfl (by simpa using ht) (by rw [List.size_toArray, sD.out.1]; kernel_rfl) (jba on) ?_
     exact hK _ _ ⟨x36, _, x38, x39, _, rfl, h1⟩
   ·rintro S aa W hall ⟨x36, x37, x38, x39, x40, rfl, h⟩
    obtain rfl := h.f0 (hall 0 (by decide))
    obtain rfl := h.f1 (hall 1 (by decide))
    obtain rfl := h.f2 (hall 2 (by decide))
    obtain rfl := h.f3 (hall 3 (by decide))
    obtain rfl := h.f4 (hall 4 (by decide))
    have s_5 : S 5 = true := hall 5 (by decide)
    have h9C : L9 XA XB XD XD XE := ⟨H9.out.a, H9.out.b, sD.out.1, H9.out.d, H9.out.e⟩
    have HB3 : Hid (Below z w W) := h.vb
    have x3 := h.vx
    rw [if_pos s_5] at x3
    have y3 := h.vy
    have z3 := h.vz
    have s3 := h.vs
    clear h hall s_5 I0
    obtain ⟨V3, hV3⟩ : ∃ V, W = V := ⟨_, rfl⟩
    rw [hV3] at x3 y3 z3 s3 HB3 ⊢
    clear hV3
    refine wpList_plain rfl (fun K hK => ?_)
    go_simp
    refine hK _ _ ?_
    clear hK K
    have ht : V3.there z 20 UC.length := jai x3 (by rw [HLn.out.2.2, jaz h9C]; omega)
    refine jat rfl rfl 31 _ _ rfl z 20 UC rfl rfl ht (by rw [HLn.out.2.2]; kernel_rfl) oc ?_
    refine wpList_nil ?_
    refine Stp.out ?_
    refine ⟨?_⟩
    have x4 := st9_putD h9C HLn.out.2.2 x3
    have y4 : Bq (z + 1) 33 LU.toArray (V3.setCells z 20 UC) := (jad (by omega) _ _ _).trans y3
    have z4 : Bq (z + 2) 38 _ (V3.setCells z 20 UC) := (jad (by omega) _ _ _).trans z3
    have s4 : z + 3 ≤ (V3.setCells z 20 UC).heap.size := by rw [jaj]; exact s3
    have HB4 : Hid (Below z w (V3.setCells z 20 UC)) := jaq HB3.out (Nat.le_refl _) _
    obtain ⟨V4, hV4⟩ : ∃ W, V3.setCells z 20 UC = W := ⟨_, rfl⟩
    rw [hV4] at x4 y4 z4 s4 HB4 ⊢
    clear hV4 x3 y3 z3 s3 HB3
    clear ht
    have h9D : L9 XA XB XD UC XE := ⟨H9.out.a, H9.out.b, sD.out.1, HLn.out.2.2, H9.out.e⟩
    have c48 : V4.cell? ⟨z, 48, none⟩ = some (.int .i64 nl) := jaf x4 48 _ (st9_l h9D)
    have c49 : V4.cell? ⟨z, 49, none⟩ = some (.int .i64 nt) := jaf x4 49 _ (st9_t h9D)
    have f48 : V4.frozen? ⟨z, 48, none⟩ = false := Bq.fr x4 48
    have f49 : V4.frozen? ⟨z, 49, none⟩ = false := Bq.fr x4 49
    have x5 := st9_putt h9D 0 (st9_putl h9D nt x4)
    have y5 : Bq (z + 1) 33 LU.toArray ((V4.setCell ⟨z, 48, none⟩ (.int .i64 nt)).setCell ⟨z, 49, none⟩ (.int .i64 0)) := (Below.heap_setCell _ _ _ _ (show z + 1 ≠ z by omega)).trans ((Below.heap_setCell _ _ _ _ (show z + 1 ≠ z by omega)).trans y4)
    have z5 : Bq (z + 2) 38 _ ((V4.setCell ⟨z, 48, none⟩ (.int .i64 nt)).setCell ⟨z, 49, none⟩ (.int .i64 0)) := (Below.heap_setCell _ _ _ _ (show z + 2 ≠ z by omega)).trans ((Below.heap_setCell _ _ _ _ (show z + 2 ≠ z by omega)).trans z4)
    have s5 : z + 3 ≤ ((V4.setCell ⟨z, 48, none⟩ (.int .i64 nt)).setCell ⟨z, 49, none⟩ (.int .i64 0)).heap.size := by rw [jca, jca]; exact s4
    have HB5 : Hid (Below z w ((V4.setCell ⟨z, 48, none⟩ (.int .i64 nt)).setCell ⟨z, 49, none⟩ (.int .i64 0))) := show _ from (HB4.out.setCell (p := ⟨z, 48, none⟩) (Nat.le_refl _) _).setCell (p := ⟨z, 49, none⟩) (Nat.le_refl _) _
    have RU := jac y5 12 UF u12
    have RS := jac x5 0 XA st9_A
    go_wp2_with (first | (refine wpList_load_mid rfl 29 _ rfl (z + 1) 12 rfl _ _ RU Tryz.underlying29 rfl (by rw [HLn.out.2.1]; kernel_rfl) ?_) | (refine jab (by rfl) 29 _ rfl (z + 1) 12 rfl _ _ RU Tryz.underlying29 rfl (by rw [HLn.out.2.1]; kernel_rfl) ?_) | (refine wpList_load_mid rfl 29 _ rfl z 0 rfl _ _ RS Tryz.underlying29 rfl (by rw [sD.out.2.1]; kernel_rfl) ?_) | (refine jab (by rfl) 29 _ rfl z 0 rfl _ _ RS Tryz.underlying29 rfl (by rw [sD.out.2.1]; kernel_rfl) ?_))
    refine (KA _).mono ?_
    rintro e V6 ⟨rfl, C⟩
    have x6 := x5.below C
    have y6 : Bq (z + 1) 33 LU.toArray V6 := y5.below C
    have z6 := z5.below C
    have s6 : z + 3 ≤ V6.heap.size := by have := C.size; omega
    have HB6 : Hid (Below z w V6) := jaa HB5.out (by omega) C
    clear C x5 y5 z5 s5 HB5
    clear RU RS KA x4 y4 z4 s4 HB4 c48 c49 f48 f49
    cases ab with
    | false =>
     clear KB KCn
     have ht : V6.there z 22 (zUL : List Value).length := jai x6 (by rw [jaz h9D]; exact (by decide))
     go_wp2_with (first | (refine jat rfl rfl 33 _ _ rfl z 22 zUL rfl rfl ht (by kernel_rfl) (jbj zUp nU) ?_; refine Stp.out ?_))
     refine ⟨?_⟩
     have x7 := (jcw h9D (X := zUL) rfl) x6
     have y7 : Bq (z + 1) 33 LU.toArray (V6.setCells z 22 zUL) := (jad (by omega) _ _ _).trans y6
     have z7 : Bq (z + 2) 38 _ (V6.setCells z 22 zUL) := (jad (by omega) _ _ _).trans z6
     have s7 : z + 3 ≤ (V6.setCells z 22 zUL).heap.size := by rw [jaj]; exact s6
     have HB7 : Hid (Below z w (V6.setCells z 22 zUL)) := jaq HB6.out (Nat.le_refl _) _
     obtain ⟨V7, hV7⟩ : ∃ W, V6.setCells z 22 zUL = W := ⟨_, rfl⟩
     rw [hV7] at x7 y7 z7 s7 HB7 ⊢
     clear hV7 x6 y6 z6 s6 HB6
     have h9e : L9 XA XB XD UC zUL := ⟨h9D.a, h9D.b, h9D.c, h9D.d, rfl⟩
     have c47 : V7.cell? ⟨z, 47, none⟩ = some (.bool bh) := jaf x7 47 _ (st9_h h9e)
     have f47 : V7.frozen? ⟨z, 47, none⟩ = false := Bq.fr x7 47
     have xF := jcv h9e false x7
     have zF : Bq (z + 2) 38 _ (V7.setCell ⟨z, 47, none⟩ (.bool false)) := (Below.heap_setCell _ _ _ _ (show z + 2 ≠ z by omega)).trans z7
     have bF : Hid (Below z w (V7.setCell ⟨z, 47, none⟩ (.bool false))) := HB7.out.setCell (p := ⟨z, 47, none⟩) (Nat.le_refl _) _
     have hone : Hid ((st9 XA XB XD UC zUL false nt 0 bf).toArray.all (·.oneCell') = true) := show _ from (by
      refine jba (jel ?_ ?_ ?_ ?_ (jbj zUp nU) _ _ _ _) <;> assumption)
     have hQ : Hid ((st9 XA XB XD UC zUL false nt 0 bf).toArray.size = 51) := show _ by rw [List.size_toArray]; exact jaz h9e
     obtain ⟨F9, hF9⟩ : ∃ F, (st9 XA XB XD UC zUL false nt 0 bf).toArray = F := ⟨_, rfl⟩
     rw [hF9] at xF hQ hone
     have HF : Hid _ := hF9
     have HZF : Hid _ := zF
     clear hF9 x7 y7 z7 s7 ht h9e
     go_wp2_with (first | (refine wpList_load_row rfl 38 _ rfl z rfl _ _ _ _ xF Tryz.underlying38 rfl (by rw [hQ.out]; kernel_rfl) ?_) | (refine jao rfl rfl 38 _ _ rfl (z + 2) _ rfl rfl 38 _ zF (by rw [hQ.out]; kernel_rfl) (by rw [hQ.out]; rfl) hone.out ?_))
     refine bodyPost_ret (results_cell_row rfl _ _ (z + 2) 38 _ (0, 0) _ rfl (Bq.row (show Bq (z + 2) 38 _ _ from HZF.out) F9) Tryz.underlying38 rfl (by rw [hQ.out]; kernel_rfl)) rfl ⟨?_, ?_⟩
     ·rw [← HF.out]
      have HN := HANS.out
      rw [eA.out, eB.out] at HN
      exact congrArg (fun a => Ending.returned (Value.agg a)) HN
     ·rw [HZ.out]
      exact jas bF.out (by omega) F9
    | true =>
     have RU := jac y6 12 UF u12
     have ht : V6.there z 0 UF.length := jai x6 (by rw [HLn.out.2.1, jaz h9D]; omega)
     go_wp2_with (first | (refine wpList_load_mid rfl 29 _ rfl (z + 1) 12 rfl _ _ RU Tryz.underlying29 rfl (by rw [HLn.out.2.1]; kernel_rfl) ?_) | (refine jab (by rfl) 29 _ rfl (z + 1) 12 rfl _ _ RU Tryz.underlying29 rfl (by rw [HLn.out.2.1]; kernel_rfl) ?_) | (refine jat rfl rfl 29 _ _ rfl z 0 UF rfl rfl ht (by rw [HLn.out.2.1]; kernel_rfl) o9 ?_; refine Stp.out ?_))
     refine ⟨?_⟩
     have x7 := st9_putA h9D HLn.out.2.1 x6
     have y7 : Bq (z + 1) 33 LU.toArray (V6.setCells z 0 UF) := (jad (by omega) _ _ _).trans y6
     have z7 : Bq (z + 2) 38 _ (V6.setCells z 0 UF) := (jad (by omega) _ _ _).trans z6
     have s7 : z + 3 ≤ (V6.setCells z 0 UF).heap.size := by rw [jaj]; exact s6
     have HB7 : Hid (Below z w (V6.setCells z 0 UF)) := jaq HB6.out (Nat.le_refl _) _
     obtain ⟨V7, hV7⟩ : ∃ W, V6.setCells z 0 UF = W := ⟨_, rfl⟩
     rw [hV7] at x7 y7 z7 s7 HB7 ⊢
     clear hV7 x6 y6 z6 s6 HB6
     clear RU ht
     have h9_ := L9.mk HLn.out.2.1 h9D.b h9D.c h9D.d h9D.e
     have QU := jbl (jac y7 12 UF u12) (by omega)
     have QB := jbl (jac x7 9 XB (st9_B h9_)) (by omega)
     have c4 := jae (w := V7) KB
     have c5 := jae (w := V7) KCn
     have BV := HB7.out
     go_wp2_with fail
     refine jar 11 (by kernel_rfl) (by kernel_rfl) ?_
     simp only [List.take_succ_cons, List.take_zero, List.drop_succ_cons, List.drop_zero]
     refine Stp.out ?_
     iterate 1 (refine jag (fun K hK => ?_); go_simp; refine hK _ ?_; clear hK K)
     refine jak (by kernel_rfl) 29 _ rfl _ _ rfl _ _ QU Tryz.underlying29 rfl (by rw [HLn.out.2.1]; kernel_rfl) ?_
     iterate 1 (refine jag (fun K hK => ?_); go_simp; refine hK _ ?_; clear hK K)
     refine jak (by kernel_rfl) 29 _ rfl _ _ rfl _ _ QB Tryz.underlying29 rfl (by rw [H9.out.b]; kernel_rfl) ?_
     refine jag (fun K hK => ?_)
     go_simp
     apply Exists.intro
     refine ⟨fun _ => ?_, hK _ ?_⟩
     exact c4 _ _
     clear hK K
     iterate 1 (refine jag (fun K hK => ?_); go_simp; refine hK _ ?_; clear hK K)
     refine jak (by kernel_rfl) 29 _ rfl _ _ rfl _ _ QU Tryz.underlying29 rfl (by rw [HLn.out.2.1]; kernel_rfl) ?_
     iterate 1 (refine jag (fun K hK => ?_); go_simp; refine hK _ ?_; clear hK K)
     refine jak (by kernel_rfl) 29 _ rfl _ _ rfl _ _ QB Tryz.underlying29 rfl (by rw [H9.out.b]; kernel_rfl) ?_
     refine jag (fun K hK => ?_)
     go_simp
     apply Exists.intro
     refine ⟨fun _ => ?_, hK _ ?_⟩
     exact c5 _ _
     clear hK K
     iterate 1 (refine jag (fun K hK => ?_); go_simp; refine hK _ ?_; clear hK K)
     refine ⟨wpQuiet_nil ?_⟩
     intro V8 hV8
     have cB8 : Below V7.heap.size V7 V8 := by
      obtain ⟨p, rfl⟩ := hV8
      exact below_regrown _ _ _
     have B8 : Below z w V8 := by
      obtain ⟨p, rfl⟩ := hV8
      exact jaa BV (by have := BV.size; omega) (below_regrown V7 p.d p.os)
     clear hV8
     have C := cB8
     have x8 := x7.below C
     have y8 : Bq (z + 1) 33 LU.toArray V8 := y7.below C
     have z8 := z7.below C
     have s8 : z + 3 ≤ V8.heap.size := by have := C.size; omega
     have HB8 : Hid (Below z w V8) := jaa HB7.out (by omega) C
     clear C cB8 BV B8 QU QB c4 c5 KB KCn x7 y7 z7 s7 HB7
     have ht : V8.there z 9 XN.length := jai x8 (by rw [lXN, jaz h9_]; omega)
     go_wp2_with (first | (refine jat rfl rfl 29 _ _ rfl z 9 XN rfl rfl ht (by rw [lXN]; kernel_rfl) oXN ?_; refine Stp.out ?_))
     refine ⟨?_⟩
     have x9 := jdp h9_ lXN x8
     have y9 : Bq (z + 1) 33 LU.toArray (V8.setCells z 9 XN) := (jad (by omega) _ _ _).trans y8
     have z9 : Bq (z + 2) 38 _ (V8.setCells z 9 XN) := (jad (by omega) _ _ _).trans z8
     have s9 : z + 3 ≤ (V8.setCells z 9 XN).heap.size := by rw [jaj]; exact s8
     have HB9 : Hid (Below z w (V8.setCells z 9 XN)) := jaq HB8.out (Nat.le_refl _) _
     obtain ⟨V9, hV9⟩ : ∃ W, V8.setCells z 9 XN = W := ⟨_, rfl⟩
     rw [hV9] at x9 y9 z9 s9 HB9 ⊢
     clear hV9 x8 y8 z8 s8 HB8
     clear ht
     have h9f : L9 UF XN XD UC XE := ⟨h9_.a, lXN, h9_.c, h9_.d, h9_.e⟩
     have ht : V9.there z 22 (zUL : List Value).length := jai x9 (by rw [jaz h9f]; exact (by decide))
     go_wp2_with (first | (refine jat rfl rfl 33 _ _ rfl z 22 zUL rfl rfl ht (by kernel_rfl) (jbj zUp nU) ?_; refine Stp.out ?_))
     refine ⟨?_⟩
     have x10 := (jcw h9f (X := zUL) rfl) x9
     have y10 : Bq (z + 1) 33 LU.toArray (V9.setCells z 22 zUL) := (jad (by omega) _ _ _).trans y9
     have z10 : Bq (z + 2) 38 _ (V9.setCells z 22 zUL) := (jad (by omega) _ _ _).trans z9
     have s10 : z + 3 ≤ (V9.setCells z 22 zUL).heap.size := by rw [jaj]; exact s9
     have HB10 : Hid (Below z w (V9.setCells z 22 zUL)) := jaq HB9.out (Nat.le_refl _) _
     obtain ⟨V10, hV10⟩ : ∃ W, V9.setCells z 22 zUL = W := ⟨_, rfl⟩
     rw [hV10] at x10 y10 z10 s10 HB10 ⊢
     clear hV10 x9 y9 z9 s9 HB9
     have h9e : L9 UF XN XD UC zUL := ⟨h9f.a, h9f.b, h9f.c, h9f.d, rfl⟩
     have c47 : V10.cell? ⟨z, 47, none⟩ = some (.bool bh) := jaf x10 47 _ (st9_h h9e)
     have f47 : V10.frozen? ⟨z, 47, none⟩ = false := Bq.fr x10 47
     have xF := jcv h9e false x10
     have zF : Bq (z + 2) 38 _ (V10.setCell ⟨z, 47, none⟩ (.bool false)) := (Below.heap_setCell _ _ _ _ (show z + 2 ≠ z by omega)).trans z10
     have bF : Hid (Below z w (V10.setCell ⟨z, 47, none⟩ (.bool false))) := HB10.out.setCell (p := ⟨z, 47, none⟩) (Nat.le_refl _) _
     have hone : Hid ((st9 UF XN XD UC zUL false nt 0 bf).toArray.all (·.oneCell') = true) := show _ from (by
      refine jba (jel ?_ ?_ ?_ ?_ (jbj zUp nU) _ _ _ _) <;> assumption)
     have hQ : Hid ((st9 UF XN XD UC zUL false nt 0 bf).toArray.size = 51) := show _ by rw [List.size_toArray]; exact jaz h9e
     obtain ⟨F9, hF9⟩ : ∃ F, (st9 UF XN XD UC zUL false nt 0 bf).toArray = F := ⟨_, rfl⟩
     rw [hF9] at xF hQ hone
     have HF : Hid _ := hF9
     have HZF : Hid _ := zF
     clear hF9 x10 y10 z10 s10 ht h9e
     go_wp2_with (first | (refine wpList_load_row rfl 38 _ rfl z rfl _ _ _ _ xF Tryz.underlying38 rfl (by rw [hQ.out]; kernel_rfl) ?_) | (refine jao rfl rfl 38 _ _ rfl (z + 2) _ rfl rfl 38 _ zF (by rw [hQ.out]; kernel_rfl) (by rw [hQ.out]; rfl) hone.out ?_))
     refine bodyPost_ret (results_cell_row rfl _ _ (z + 2) 38 _ (0, 0) _ rfl (Bq.row (show Bq (z + 2) 38 _ _ from HZF.out) F9) Tryz.underlying38 rfl (by rw [hQ.out]; kernel_rfl)) rfl ⟨?_, ?_⟩
     ·rw [← HF.out]
      have HN := HANS.out
      rw [eA.out, eB.out] at HN
      rw [Bool.true_and, HXN.out] at HN
      exact congrArg (fun a => Ending.returned (Value.agg a)) HN
     ·rw [HZ.out]
      exact jas bF.out (by omega) F9
  ·have he : ((now : Int) == ((was + 1 : Nat) : Int)) = false := by rw [beq_eq_false_iff_ne]; omega
   have eA : Hid ((!true && decide (now = was)) = false) := show _ from rfl
   have eB : Hid ((true && decide (now = was + 1)) = false) := show (true && decide (now = was + 1)) = false by simp [h]
   clear UC9
   have RU := jac y1 12 UF u12
   have RS := jac x1 0 XA st9_A
   go_wp2_with (first | (refine wpList_load_mid rfl 29 _ rfl (z + 1) 12 rfl _ _ RU Tryz.underlying29 rfl (by rw [HLn.out.2.1]; kernel_rfl) ?_) | (refine jab (by rfl) 29 _ rfl (z + 1) 12 rfl _ _ RU Tryz.underlying29 rfl (by rw [HLn.out.2.1]; kernel_rfl) ?_) | (refine wpList_load_mid rfl 29 _ rfl z 0 rfl _ _ RS Tryz.underlying29 rfl (by rw [sD.out.2.1]; kernel_rfl) ?_) | (refine jab (by rfl) 29 _ rfl z 0 rfl _ _ RS Tryz.underlying29 rfl (by rw [sD.out.2.1]; kernel_rfl) ?_))
   refine (KA _).mono ?_
   rintro e V2 ⟨rfl, C⟩
   have x2 := x1.below C
   have y2 : Bq (z + 1) 33 LU.toArray V2 := y1.below C
   have z2 := z1.below C
   have s2 : z + 3 ≤ V2.heap.size := by have := C.size; omega
   have HB2 : Hid (Below z w V2) := jaa HB1.out (by omega) C
   clear C x1 y1 z1 s1 HB1
   clear RU RS KA
   cases ab with
   | false =>
    clear KB KCn
    have ht : V2.there z 22 (zUL : List Value).length := jai x2 (by rw [jaz H9.out]; exact (by decide))
    go_wp2_with (first | (refine jat rfl rfl 33 _ _ rfl z 22 zUL rfl rfl ht (by kernel_rfl) (jbj zUp nU) ?_; refine Stp.out ?_))
    refine ⟨?_⟩
    have x3 := (jcw H9.out (X := zUL) rfl) x2
    have y3 : Bq (z + 1) 33 LU.toArray (V2.setCells z 22 zUL) := (jad (by omega) _ _ _).trans y2
    have z3 : Bq (z + 2) 38 _ (V2.setCells z 22 zUL) := (jad (by omega) _ _ _).trans z2
    have s3 : z + 3 ≤ (V2.setCells z 22 zUL).heap.size := by rw [jaj]; exact s2
    have HB3 : Hid (Below z w (V2.setCells z 22 zUL)) := jaq HB2.out (Nat.le_refl _) _
    obtain ⟨V3, hV3⟩ : ∃ W, V2.setCells z 22 zUL = W := ⟨_, rfl⟩
    rw [hV3] at x3 y3 z3 s3 HB3 ⊢
    clear hV3 x2 y2 z2 s2 HB2
    have h9e : L9 XA XB XC XD zUL := ⟨H9.out.a, H9.out.b, H9.out.c, H9.out.d, rfl⟩
    have c47 : V3.cell? ⟨z, 47, none⟩ = some (.bool bh) := jaf x3 47 _ (st9_h h9e)
    have f47 : V3.frozen? ⟨z, 47, none⟩ = false := Bq.fr x3 47
    have xF := jcv h9e false x3
    have zF : Bq (z + 2) 38 _ (V3.setCell ⟨z, 47, none⟩ (.bool false)) := (Below.heap_setCell _ _ _ _ (show z + 2 ≠ z by omega)).trans z3
    have bF : Hid (Below z w (V3.setCell ⟨z, 47, none⟩ (.bool false))) := HB3.out.setCell (p := ⟨z, 47, none⟩) (Nat.le_refl _) _
    have hone : Hid ((st9 XA XB XC XD zUL false nl nt bf).toArray.all (·.oneCell') = true) := show _ from (by
     refine jba (jel ?_ ?_ ?_ ?_ (jbj zUp nU) _ _ _ _) <;> assumption)
    have hQ : Hid ((st9 XA XB XC XD zUL false nl nt bf).toArray.size = 51) := show _ by rw [List.size_toArray]; exact jaz h9e
    obtain ⟨F9, hF9⟩ : ∃ F, (st9 XA XB XC XD zUL false nl nt bf).toArray = F := ⟨_, rfl⟩
    rw [hF9] at xF hQ hone
    have HF : Hid _ := hF9
    have HZF : Hid _ := zF
    clear hF9 x3 y3 z3 s3 ht h9e
    go_wp2_with (first | (refine wpList_load_row rfl 38 _ rfl z rfl _ _ _ _ xF Tryz.underlying38 rfl (by rw [hQ.out]; kernel_rfl) ?_) | (refine jao rfl rfl 38 _ _ rfl (z + 2) _ rfl rfl 38 _ zF (by rw [hQ.out]; kernel_rfl) (by rw [hQ.out]; rfl) hone.out ?_))
    refine bodyPost_ret (results_cell_row rfl _ _ (z + 2) 38 _ (0, 0) _ rfl (Bq.row (show Bq (z + 2) 38 _ _ from HZF.out) F9) Tryz.underlying38 rfl (by rw [hQ.out]; kernel_rfl)) rfl ⟨?_, ?_⟩
    ·rw [← HF.out]
     have HN := HANS.out
     rw [eA.out, eB.out] at HN
     exact congrArg (fun a => Ending.returned (Value.agg a)) HN
    ·rw [HZ.out]
     exact jas bF.out (by omega) F9
   | true =>
    have RU := jac y2 12 UF u12
    have ht : V2.there z 0 UF.length := jai x2 (by rw [HLn.out.2.1, jaz H9.out]; omega)
    go_wp2_with (first | (refine wpList_load_mid rfl 29 _ rfl (z + 1) 12 rfl _ _ RU Tryz.underlying29 rfl (by rw [HLn.out.2.1]; kernel_rfl) ?_) | (refine jab (by rfl) 29 _ rfl (z + 1) 12 rfl _ _ RU Tryz.underlying29 rfl (by rw [HLn.out.2.1]; kernel_rfl) ?_) | (refine jat rfl rfl 29 _ _ rfl z 0 UF rfl rfl ht (by rw [HLn.out.2.1]; kernel_rfl) o9 ?_; refine Stp.out ?_))
    refine ⟨?_⟩
    have x3 := st9_putA H9.out HLn.out.2.1 x2
    have y3 : Bq (z + 1) 33 LU.toArray (V2.setCells z 0 UF) := (jad (by omega) _ _ _).trans y2
    have z3 : Bq (z + 2) 38 _ (V2.setCells z 0 UF) := (jad (by omega) _ _ _).trans z2
    have s3 : z + 3 ≤ (V2.setCells z 0 UF).heap.size := by rw [jaj]; exact s2
    have HB3 : Hid (Below z w (V2.setCells z 0 UF)) := jaq HB2.out (Nat.le_refl _) _
    obtain ⟨V3, hV3⟩ : ∃ W, V2.setCells z 0 UF = W := ⟨_, rfl⟩
    rw [hV3] at x3 y3 z3 s3 HB3 ⊢
    clear hV3 x2 y2 z2 s2 HB2
    clear RU ht
    have h9_ := L9.mk HLn.out.2.1 H9.out.b H9.out.c H9.out.d H9.out.e
    have QU := jbl (jac y3 12 UF u12) (by omega)
    have QB := jbl (jac x3 9 XB (st9_B h9_)) (by omega)
    have c4 := jae (w := V3) KB
    have c5 := jae (w := V3) KCn
    have BV := HB3.out
    go_wp2_with fail
    refine jar 11 (by kernel_rfl) (by kernel_rfl) ?_
    simp only [List.take_succ_cons, List.take_zero, List.drop_succ_cons, List.drop_zero]
    refine Stp.out ?_
    iterate 1 (refine jag (fun K hK => ?_); go_simp; refine hK _ ?_; clear hK K)
    refine jak (by kernel_rfl) 29 _ rfl _ _ rfl _ _ QU Tryz.underlying29 rfl (by rw [HLn.out.2.1]; kernel_rfl) ?_
    iterate 1 (refine jag (fun K hK => ?_); go_simp; refine hK _ ?_; clear hK K)
    refine jak (by kernel_rfl) 29 _ rfl _ _ rfl _ _ QB Tryz.underlying29 rfl (by rw [H9.out.b]; kernel_rfl) ?_
    refine jag (fun K hK => ?_)
    go_simp
    apply Exists.intro
    refine ⟨fun _ => ?_, hK _ ?_⟩
    exact c4 _ _
    clear hK K
    iterate 1 (refine jag (fun K hK => ?_); go_simp; refine hK _ ?_; clear hK K)
    refine jak (by kernel_rfl) 29 _ rfl _ _ rfl _ _ QU Tryz.underlying29 rfl (by rw [HLn.out.2.1]; kernel_rfl) ?_
    iterate 1 (refine jag (fun K hK => ?_); go_simp; refine hK _ ?_; clear hK K)
    refine jak (by kernel_rfl) 29 _ rfl _ _ rfl _ _ QB Tryz.underlying29 rfl (by rw [H9.out.b]; kernel_rfl) ?_
    refine jag (fun K hK => ?_)
    go_simp
    apply Exists.intro
    refine ⟨fun _ => ?_, hK _ ?_⟩
    exact c5 _ _
    clear hK K
    iterate 1 (refine jag (fun K hK => ?_); go_simp; refine hK _ ?_; clear hK K)
    refine ⟨wpQuiet_nil ?_⟩
    intro V4 hV4
    have cB4 : Below V3.heap.size V3 V4 := by
     obtain ⟨p, rfl⟩ := hV4
     exact below_regrown _ _ _
    have B4 : Below z w V4 := by
     obtain ⟨p, rfl⟩ := hV4
     exact jaa BV (by have := BV.size; omega) (below_regrown V3 p.d p.os)
    clear hV4
    have C := cB4
    have x4 := x3.below C
    have y4 : Bq (z + 1) 33 LU.toArray V4 := y3.below C
    have z4 := z3.below C
    have s4 : z + 3 ≤ V4.heap.size := by have := C.size; omega
    have HB4 : Hid (Below z w V4) := jaa HB3.out (by omega) C
    clear C cB4 BV B4 QU QB c4 c5 KB KCn x3 y3 z3 s3 HB3
    have ht : V4.there z 9 XN.length := jai x4 (by rw [lXN, jaz h9_]; omega)
    go_wp2_with (first | (refine jat rfl rfl 29 _ _ rfl z 9 XN rfl rfl ht (by rw [lXN]; kernel_rfl) oXN ?_; refine Stp.out ?_))
    refine ⟨?_⟩
    have x5 := jdp h9_ lXN x4
    have y5 : Bq (z + 1) 33 LU.toArray (V4.setCells z 9 XN) := (jad (by omega) _ _ _).trans y4
    have z5 : Bq (z + 2) 38 _ (V4.setCells z 9 XN) := (jad (by omega) _ _ _).trans z4
    have s5 : z + 3 ≤ (V4.setCells z 9 XN).heap.size := by rw [jaj]; exact s4
    have HB5 : Hid (Below z w (V4.setCells z 9 XN)) := jaq HB4.out (Nat.le_refl _) _
    obtain ⟨V5, hV5⟩ : ∃ W, V4.setCells z 9 XN = W := ⟨_, rfl⟩
    rw [hV5] at x5 y5 z5 s5 HB5 ⊢
    clear hV5 x4 y4 z4 s4 HB4
    clear ht
    have h9f : L9 UF XN XC XD XE := ⟨h9_.a, lXN, h9_.c, h9_.d, h9_.e⟩
    have ht : V5.there z 22 (zUL : List Value).length := jai x5 (by rw [jaz h9f]; exact (by decide))
    go_wp2_with (first | (refine jat rfl rfl 33 _ _ rfl z 22 zUL rfl rfl ht (by kernel_rfl) (jbj zUp nU) ?_; refine Stp.out ?_))
    refine ⟨?_⟩
    have x6 := (jcw h9f (X := zUL) rfl) x5
    have y6 : Bq (z + 1) 33 LU.toArray (V5.setCells z 22 zUL) := (jad (by omega) _ _ _).trans y5
    have z6 : Bq (z + 2) 38 _ (V5.setCells z 22 zUL) := (jad (by omega) _ _ _).trans z5
    have s6 : z + 3 ≤ (V5.setCells z 22 zUL).heap.size := by rw [jaj]; exact s5
    have HB6 : Hid (Below z w (V5.setCells z 22 zUL)) := jaq HB5.out (Nat.le_refl _) _
    obtain ⟨V6, hV6⟩ : ∃ W, V5.setCells z 22 zUL = W := ⟨_, rfl⟩
    rw [hV6] at x6 y6 z6 s6 HB6 ⊢
    clear hV6 x5 y5 z5 s5 HB5
    have h9e : L9 UF XN XC XD zUL := ⟨h9f.a, h9f.b, h9f.c, h9f.d, rfl⟩
    have c47 : V6.cell? ⟨z, 47, none⟩ = some (.bool bh) := jaf x6 47 _ (st9_h h9e)
    have f47 : V6.frozen? ⟨z, 47, none⟩ = false := Bq.fr x6 47
    have xF := jcv h9e false x6
    have zF : Bq (z + 2) 38 _ (V6.setCell ⟨z, 47, none⟩ (.bool false)) := (Below.heap_setCell _ _ _ _ (show z + 2 ≠ z by omega)).trans z6
    have bF : Hid (Below z w (V6.setCell ⟨z, 47, none⟩ (.bool false))) := HB6.out.setCell (p := ⟨z, 47, none⟩) (Nat.le_refl _) _
    have hone : Hid ((st9 UF XN XC XD zUL false nl nt bf).toArray.all (·.oneCell') = true) := show _ from (by
     refine jba (jel ?_ ?_ ?_ ?_ (jbj zUp nU) _ _ _ _) <;> assumption)
    have hQ : Hid ((st9 UF XN XC XD zUL false nl nt bf).toArray.size = 51) := show _ by rw [List.size_toArray]; exact jaz h9e
    obtain ⟨F9, hF9⟩ : ∃ F, (st9 UF XN XC XD zUL false nl nt bf).toArray = F := ⟨_, rfl⟩
    rw [hF9] at xF hQ hone
    have HF : Hid _ := hF9
    have HZF : Hid _ := zF
    clear hF9 x6 y6 z6 s6 ht h9e
    go_wp2_with (first | (refine wpList_load_row rfl 38 _ rfl z rfl _ _ _ _ xF Tryz.underlying38 rfl (by rw [hQ.out]; kernel_rfl) ?_) | (refine jao rfl rfl 38 _ _ rfl (z + 2) _ rfl rfl 38 _ zF (by rw [hQ.out]; kernel_rfl) (by rw [hQ.out]; rfl) hone.out ?_))
    refine bodyPost_ret (results_cell_row rfl _ _ (z + 2) 38 _ (0, 0) _ rfl (Bq.row (show Bq (z + 2) 38 _ _ from HZF.out) F9) Tryz.underlying38 rfl (by rw [hQ.out]; kernel_rfl)) rfl ⟨?_, ?_⟩
    ·rw [← HF.out]
     have HN := HANS.out
     rw [eA.out, eB.out] at HN
     rw [Bool.true_and, HXN.out] at HN
     exact congrArg (fun a => Ending.returned (Value.agg a)) HN
    ·rw [HZ.out]
     exact jas bF.out (by omega) F9
end Go.Proofs.YtoddangedbefgabGreatDoor
