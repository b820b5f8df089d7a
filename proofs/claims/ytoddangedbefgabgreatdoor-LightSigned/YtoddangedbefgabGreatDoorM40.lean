/- Lemmas: What the package's isSame, checkNext do. No condition. What the package's finalizes does. No condition. What the package's text does: what is signed of a header's root, in a slot. No condition but on sizes. What the package's keys does: the keys of those that sign. No condition. -/
import Derived.Test.YtoddangedbefgabGreatDoorM39
import Derived.Test.YtoddangedbefgabGreatDoorM38
set_option maxRecDepth 20000
set_option maxHeartbeats 4000000
namespace Go.Proofs.YtoddangedbefgabGreatDoor
open Go.RowKit Go.Shelf Go.Sort
theorem isSame_any (d e : CmD) (hd : Lg d.ks) (he : Lg e.ks) (q r : Pl) (n : Nat) (w : World) (hn : n ≤ w.heap.size) (hp : slS n w q.a d.ks) (hr : slS n w r.a e.ks) :
  Calls Tryz.prog 85 #[.agg (cmV d q).toArray, .agg (cmV e r).toArray] w fun x w' => x = .returned (.bool (eqCm d e)) ∧ Below w.heap.size w w' := by
 obtain ⟨ks, sm⟩ := d
 obtain ⟨ks', sm'⟩ := e
 have KS := fun (W : World) (hB : Below w.heap.size w W) => equalTx_any ks ks' hd he q.a r.a q.c r.c n W (Nat.le_trans hn hB.size) (jan (hB.mono hn) hp) (jan (hB.mono hn) hr)
 unfold eqCm
 simp only [cmV]
 obtain ⟨e3, h3⟩ : ∃ e, decide (ks = ks') = e := ⟨_, rfl⟩
 obtain ⟨N, hN⟩ : ∃ n, ks.length = n := ⟨_, rfl⟩
 obtain ⟨M, hM⟩ : ∃ n, ks'.length = n := ⟨_, rfl⟩
 rw [h3] at KS ⊢
 rw [hN, hM] at KS ⊢
 clear h3 hN hM hd he hp hr hn
 have B1 := (box2 w (.cells #[.slice q.a N q.c, .string sm] 31) (.cells #[.slice r.a M r.c, .string sm'] 31)).1
 have KS0 := KS _ B1
 have HB : Hid _ := B1
 clear B1 KS
 go_enter Tryz.func85, Tryz.ntmps85
 by_cases h : sm = sm'
 ·have hs : (sm.toList == sm'.toList) = true := by rw [h]; exact beq_self_eq_true _
  rw [decide_eq_true h]
  clear h
  go_wp2_with fail
  refine KS0.mono ?_
  rintro x w2 ⟨rfl, B2⟩
  have HX : Hid _ := jaa HB.out HB.out.size B2
  clear B2 KS0 HB
  go_wp2
  go_ret
  exact ⟨by simp, HX.out⟩
 ·have hs : (sm.toList == sm'.toList) = false := by rw [beq_eq_false_iff_ne]; exact fun e => h (toList_inj e)
  rw [decide_eq_false h]
  clear h
  go_wp2
  go_ret
  exact ⟨by simp, HB.out⟩
def cnE (s : StD) (d : UpD) : Int := if (!hnB d) = true then 0 else if (decide (0 < s.nxt.ks.length) && (decide (d.l.s / 64 = s.fin.s / 64) && !eqCm d.c s.nxt)) = true then 146 else if (!cmB d.c.ks d.c.sm) = true then 130 else if (!lfV (cmS d.c.ks d.c.sm) d.nb 5 d.l.t) = true then 145 else 0
theorem checkNext_any (s : StD) (hs : s.ok) (hzs : Lg s.nxt.ks) (d : UpD) (hd : d.ok) (hzd : Lg d.c.ks) (p : StP) (q : UpP) (n : Nat) (w : World) (hl : Laid w) (hn : n ≤ w.heap.size) (hps : stIn n w s p) (hp : upIn n w d q) : Calls Tryz.prog 48 #[.agg (stV s p).toArray, .agg (upV d q).toArray] w fun x w' => x = .returned (.int .i64 (cnE s d)) ∧ Below w.heap.size w w' := by
 have KH := jeg d q
 have KM := fun (W : World) (hB : Below w.heap.size w W) (hs : w.heap.size ≤ W.heap.size) => hcommC_any d.c q.c n W (hl.below hB) (Nat.le_trans hn hs) (jan (hB.mono hn) hp.2.1)
 have KK := jdk s.nxt p.nxt
 have KS := jcx d.l s.fin hd.1.1 hs.1.1 q.l p.fin
 have KE := fun (W : World) (hB : Below w.heap.size w W) (hs : w.heap.size ≤ W.heap.size) => isSame_any d.c s.nxt hzd hzs q.c p.nxt n W (Nat.le_trans hn hs) (jan (hB.mono hn) hp.2.1) (jan (hB.mono hn) hps.2.2.2.1)
 have KL := fun (W : World) (hB : Below w.heap.size w W) (hs : w.heap.size ≤ W.heap.size) => isLeaf_any (cmS d.c.ks d.c.sm) d.nb q.nb 5 (by omega) d.l.t n W (hl.below hB) (Nat.le_trans hn hs) (jan (hB.mono hn) hp.2.2.1)
 have hE : cnE s d = if (!hnB d) = true then 0 else if (decide (0 < s.nxt.ks.length) && (decide (d.l.s / 64 = s.fin.s / 64) && !eqCm d.c s.nxt)) = true then 146 else if (!cmB d.c.ks d.c.sm) = true then 130 else if (!lfV (cmS d.c.ks d.c.sm) d.nb 5 d.l.t) = true then 145 else 0 := rfl
 have hmE : cmE d.c.ks d.c.sm = if cmB d.c.ks d.c.sm = true then 0 else 130 := rfl
 have a0 := jek s p
 have a3 := jfk s p
 have u0 := upV_l d q
 have u9 := upV_c d q
 have u11 : (upV d q)[11]? = some (slV d.nb q.nb) := rfl
 have u3 : (upV d q)[3]? = some (.string d.l.t) := rfl
 have HL : Hid ((stV s p).length = 51 ∧ (ltV s.fin p.fin).length = 9 ∧ (cmV s.nxt p.nxt).length = 2 ∧ (upV d q).length = 25 ∧ (ltV d.l q.l).length = 9 ∧ (cmV d.c q.c).length = 2) := show _ from ⟨rfl, rfl, rfl, rfl, rfl, rfl⟩
 obtain ⟨hx, hh⟩ : ∃ n, hnB d = n := ⟨_, rfl⟩
 obtain ⟨kn, hk⟩ : ∃ n, decide (0 < s.nxt.ks.length) = n := ⟨_, rfl⟩
 obtain ⟨sp, hb⟩ : ∃ n, decide (d.l.s / 64 = s.fin.s / 64) = n := ⟨_, rfl⟩
 obtain ⟨sm, hm⟩ : ∃ n, eqCm d.c s.nxt = n := ⟨_, rfl⟩
 obtain ⟨cb, hcb⟩ : ∃ x, cmB d.c.ks d.c.sm = x := ⟨_, rfl⟩
 obtain ⟨cs, hcs⟩ : ∃ x, cmS d.c.ks d.c.sm = x := ⟨_, rfl⟩
 obtain ⟨ce, hce⟩ : ∃ x, cmE d.c.ks d.c.sm = x := ⟨_, rfl⟩
 rw [hcs] at KL hE KM
 obtain ⟨lf, hlf⟩ : ∃ n, lfV cs d.nb 5 d.l.t = n := ⟨_, rfl⟩
 rw [hce, hcb] at hmE
 rw [hce] at KM
 rw [hh] at KH
 rw [hk] at KK
 rw [hb] at KS
 rw [hm] at KE
 rw [hlf] at KL
 rw [hh, hk, hb, hm, hcb, hlf] at hE
 obtain ⟨LS, hLS⟩ : ∃ L, stV s p = L := ⟨_, rfl⟩
 obtain ⟨LU, hLU⟩ : ∃ L, upV d q = L := ⟨_, rfl⟩
 obtain ⟨XF, hXF⟩ : ∃ L, ltV s.fin p.fin = L := ⟨_, rfl⟩
 obtain ⟨XN, hXN⟩ : ∃ L, cmV s.nxt p.nxt = L := ⟨_, rfl⟩
 obtain ⟨XL, hXL⟩ : ∃ L, ltV d.l q.l = L := ⟨_, rfl⟩
 obtain ⟨XC, hXC⟩ : ∃ L, cmV d.c q.c = L := ⟨_, rfl⟩
 rw [hLS] at a0 a3 HL ⊢
 rw [hLU] at u0 u9 u11 u3 HL KH ⊢
 rw [hXF] at a0 HL KS
 rw [hXN] at a3 KK HL KE
 rw [hXL] at u0 KS HL
 rw [hXC] at u9 KM KE HL
 have HE : Hid _ := hE
 have HME : Hid _ := hmE
 clear hLS hLU hXF hXN hXL hXC hh hk hb hm hcb hcs hce hlf hE hmE hp hps hn hl hs hd hzs hzd
 obtain ⟨B1, xS, xU, hs⟩ := box2 w (.cells LS.toArray 38) (.cells LU.toArray 33)
 obtain ⟨z, hz⟩ : ∃ z, w.heap.size = z := ⟨_, rfl⟩
 have HZ : Hid (w.heap.size = z) := hz
 rw [hz] at B1 xS xU hs KM KE KL
 have RU := jal xU
 go_enter Tryz.func48, Tryz.ntmps48
 go_wp2_with (first | (refine wpList_load_mid rfl 33 _ rfl (z + 1) 0 rfl _ _ RU Tryz.underlying33 rfl (by rw [HL.out.2.2.2.1]; kernel_rfl) ?_) | (refine jab (by kernel_rfl) 33 _ rfl (z + 1) 0 rfl _ _ RU Tryz.underlying33 rfl (by rw [HL.out.2.2.2.1]; kernel_rfl) ?_))
 refine (KH _).mono ?_
 rintro e V1 ⟨rfl, C⟩
 have xS1 : Bq z 38 LS.toArray V1 := (C.block z (by omega)).trans xS
 have xU1 : Bq (z + 1) 33 LU.toArray V1 := (C.block (z + 1) (by omega)).trans xU
 have BV1 := jaa B1 (by omega) C
 have s1 : z + 2 ≤ V1.heap.size := by have := C.size; omega
 have RC := jac xU1 9 XC u9
 have HB : Hid (Below z w V1) := BV1
 clear C KH RU xS xU hs B1 hz
 cases hx with
 | false =>
  clear RC BV1 xS1 xU1 s1
  go_wp2
  have hE : cnE s d = 0 := by rw [HE.out]; rfl
  rw [hE]
  go_ret
  exact ⟨by simp, by rw [HZ.out]; exact HB.out⟩
 | true =>
  go_wp2_with (first | (refine wpList_load_mid rfl 31 _ rfl (z + 1) 9 rfl _ _ RC Tryz.underlying31 rfl (by rw [HL.out.2.2.2.2.2]; kernel_rfl) ?_) | (refine jab (by kernel_rfl) 31 _ rfl (z + 1) 9 rfl _ _ RC Tryz.underlying31 rfl (by rw [HL.out.2.2.2.2.2]; kernel_rfl) ?_))
  refine (KM _ BV1 (by omega)).mono ?_
  rintro e V2 ⟨rfl, C⟩
  have xS2 : Bq z 38 LS.toArray V2 := (C.block z (by omega)).trans xS1
  have xU2 : Bq (z + 1) 33 LU.toArray V2 := (C.block (z + 1) (by omega)).trans xU1
  have BV2 := jaa BV1 (by omega) C
  have s2 : z + 2 ≤ V2.heap.size := by have := C.size; omega
  have RN := jac xS2 20 XN a3
  have HB : Hid (Below z w V2) := BV2
  clear C KM RC xS1 xU1 BV1 s1
  go_wp2_with (first | (refine wpList_load_mid rfl 31 _ rfl z 20 rfl _ _ RN Tryz.underlying31 rfl (by rw [HL.out.2.2.1]; kernel_rfl) ?_) | (refine jab (by kernel_rfl) 31 _ rfl z 20 rfl _ _ RN Tryz.underlying31 rfl (by rw [HL.out.2.2.1]; kernel_rfl) ?_))
  refine (KK _).mono ?_
  rintro e V3 ⟨rfl, C⟩
  have xS3 : Bq z 38 LS.toArray V3 := (C.block z (by omega)).trans xS2
  have xU3 : Bq (z + 1) 33 LU.toArray V3 := (C.block (z + 1) (by omega)).trans xU2
  have BV3 := jaa BV2 (by omega) C
  have s3 : z + 2 ≤ V3.heap.size := by have := C.size; omega
  have RF := jac xS3 0 XF a0
  have RL := jac xU3 0 XL u0
  have HB : Hid (Below z w V3) := BV3
  clear C KK RN xS2 xU2 BV2 s2
  cases kn with
  | false =>
   clear RF RL KS KE
   cases cb with
   | false =>
    obtain rfl : ce = 130 := HME.out
    clear BV3 xS3 xU3 s3
    go_wp2
    have hE : cnE s d = 130 := by rw [HE.out]; rfl
    rw [hE]
    go_ret
    exact ⟨by simp, by rw [HZ.out]; exact HB.out⟩
   | true =>
    obtain rfl : ce = 0 := HME.out
    have c3 : V3.cell? ⟨z + 1, 3, none⟩ = some (.string d.l.t) := jaf xU3 3 _ u3
    have c11 : V3.cell? ⟨z + 1, 11, none⟩ = some (slV d.nb q.nb) := jaf xU3 11 _ u11
    go_wp2_with fail
    refine (KL _ BV3 (by omega)).mono ?_
    rintro e V4 ⟨rfl, C⟩
    have xS4 : Bq z 38 LS.toArray V4 := (C.block z (by omega)).trans xS3
    have xU4 : Bq (z + 1) 33 LU.toArray V4 := (C.block (z + 1) (by omega)).trans xU3
    have BV4 := jaa BV3 (by omega) C
    have s4 : z + 2 ≤ V4.heap.size := by have := C.size; omega
    have HB : Hid (Below z w V4) := BV4
    clear C KL xS3 xU3 BV3 s3 c3 c11
    clear BV4 xS4 xU4 s4
    cases lf with
    | false =>
     go_wp2
     have hE : cnE s d = 145 := by rw [HE.out]; rfl
     rw [hE]
     go_ret
     exact ⟨by simp, by rw [HZ.out]; exact HB.out⟩
    | true =>
     go_wp2
     have hE : cnE s d = 0 := by rw [HE.out]; rfl
     rw [hE]
     go_ret
     exact ⟨by simp, by rw [HZ.out]; exact HB.out⟩
  | true =>
   go_wp2_with (first | (refine wpList_load_mid rfl 29 _ rfl z 0 rfl _ _ RF Tryz.underlying29 rfl (by rw [HL.out.2.1]; kernel_rfl) ?_) | (refine jab (by kernel_rfl) 29 _ rfl z 0 rfl _ _ RF Tryz.underlying29 rfl (by rw [HL.out.2.1]; kernel_rfl) ?_) | (refine wpList_load_mid rfl 29 _ rfl (z + 1) 0 rfl _ _ RL Tryz.underlying29 rfl (by rw [HL.out.2.2.2.2.1]; kernel_rfl) ?_) | (refine jab (by kernel_rfl) 29 _ rfl (z + 1) 0 rfl _ _ RL Tryz.underlying29 rfl (by rw [HL.out.2.2.2.2.1]; kernel_rfl) ?_))
   refine (KS _).mono ?_
   rintro e V4 ⟨rfl, C⟩
   have xS4 : Bq z 38 LS.toArray V4 := (C.block z (by omega)).trans xS3
   have xU4 : Bq (z + 1) 33 LU.toArray V4 := (C.block (z + 1) (by omega)).trans xU3
   have BV4 := jaa BV3 (by omega) C
   have s4 : z + 2 ≤ V4.heap.size := by have := C.size; omega
   have RN := jac xS4 20 XN a3
   have RC := jac xU4 9 XC u9
   have HB : Hid (Below z w V4) := BV4
   clear C KS RF RL xS3 xU3 BV3 s3
   cases sp with
   | false =>
    clear RN RC KE
    cases cb with
    | false =>
     obtain rfl : ce = 130 := HME.out
     clear BV4 xS4 xU4 s4
     go_wp2
     have hE : cnE s d = 130 := by rw [HE.out]; rfl
     rw [hE]
     go_ret
     exact ⟨by simp, by rw [HZ.out]; exact HB.out⟩
    | true =>
     obtain rfl : ce = 0 := HME.out
     have c3 : V4.cell? ⟨z + 1, 3, none⟩ = some (.string d.l.t) := jaf xU4 3 _ u3
     have c11 : V4.cell? ⟨z + 1, 11, none⟩ = some (slV d.nb q.nb) := jaf xU4 11 _ u11
     go_wp2_with fail
     refine (KL _ BV4 (by omega)).mono ?_
     rintro e V5 ⟨rfl, C⟩
     have xS5 : Bq z 38 LS.toArray V5 := (C.block z (by omega)).trans xS4
     have xU5 : Bq (z + 1) 33 LU.toArray V5 := (C.block (z + 1) (by omega)).trans xU4
     have BV5 := jaa BV4 (by omega) C
     have s5 : z + 2 ≤ V5.heap.size := by have := C.size; omega
     have HB : Hid (Below z w V5) := BV5
     clear C KL xS4 xU4 BV4 s4 c3 c11
     clear BV5 xS5 xU5 s5
     cases lf with
     | false =>
      go_wp2
      have hE : cnE s d = 145 := by rw [HE.out]; rfl
      rw [hE]
      go_ret
      exact ⟨by simp, by rw [HZ.out]; exact HB.out⟩
     | true =>
      go_wp2
      have hE : cnE s d = 0 := by rw [HE.out]; rfl
      rw [hE]
      go_ret
      exact ⟨by simp, by rw [HZ.out]; exact HB.out⟩
   | true =>
    go_wp2_with (first | (refine wpList_load_mid rfl 31 _ rfl (z + 1) 9 rfl _ _ RC Tryz.underlying31 rfl (by rw [HL.out.2.2.2.2.2]; kernel_rfl) ?_) | (refine jab (by kernel_rfl) 31 _ rfl (z + 1) 9 rfl _ _ RC Tryz.underlying31 rfl (by rw [HL.out.2.2.2.2.2]; kernel_rfl) ?_) | (refine wpList_load_mid rfl 31 _ rfl z 20 rfl _ _ RN Tryz.underlying31 rfl (by rw [HL.out.2.2.1]; kernel_rfl) ?_) | (refine jab (by kernel_rfl) 31 _ rfl z 20 rfl _ _ RN Tryz.underlying31 rfl (by rw [HL.out.2.2.1]; kernel_rfl) ?_))
    refine (KE _ BV4 (by omega)).mono ?_
    rintro e V5 ⟨rfl, C⟩
    have xS5 : Bq z 38 LS.toArray V5 := (C.block z (by omega)).trans xS4
    have xU5 : Bq (z + 1) 33 LU.toArray V5 := (C.block (z + 1) (by omega)).trans xU4
    have BV5 := jaa BV4 (by omega) C
    have s5 : z + 2 ≤ V5.heap.size := by have := C.size; omega
    have HB : Hid (Below z w V5) := BV5
    clear C KE RN RC xS4 xU4 BV4 s4
    cases sm with
    | false =>
     clear BV5 xS5 xU5 s5
     go_wp2
     have hE : cnE s d = 146 := by rw [HE.out]; rfl
     rw [hE]
     go_ret
     exact ⟨by simp, by rw [HZ.out]; exact HB.out⟩
    | true =>
     cases cb with
     | false =>
      obtain rfl : ce = 130 := HME.out
      clear BV5 xS5 xU5 s5
      go_wp2
      have hE : cnE s d = 130 := by rw [HE.out]; rfl
      rw [hE]
      go_ret
      exact ⟨by simp, by rw [HZ.out]; exact HB.out⟩
     | true =>
      obtain rfl : ce = 0 := HME.out
      have c3 : V5.cell? ⟨z + 1, 3, none⟩ = some (.string d.l.t) := jaf xU5 3 _ u3
      have c11 : V5.cell? ⟨z + 1, 11, none⟩ = some (slV d.nb q.nb) := jaf xU5 11 _ u11
      go_wp2_with fail
      refine (KL _ BV5 (by omega)).mono ?_
      rintro e V6 ⟨rfl, C⟩
      have xS6 : Bq z 38 LS.toArray V6 := (C.block z (by omega)).trans xS5
      have xU6 : Bq (z + 1) 33 LU.toArray V6 := (C.block (z + 1) (by omega)).trans xU5
      have BV6 := jaa BV5 (by omega) C
      have s6 : z + 2 ≤ V6.heap.size := by have := C.size; omega
      have HB : Hid (Below z w V6) := BV6
      clear C KL xS5 xU5 BV5 s5 c3 c11
      clear BV6 xS6 xU6 s6
      cases lf with
      | false =>
       go_wp2
       have hE : cnE s d = 145 := by rw [HE.out]; rfl
       rw [hE]
       go_ret
       exact ⟨by simp, by rw [HZ.out]; exact HB.out⟩
      | true =>
       go_wp2
       have hE : cnE s d = 0 := by rw [HE.out]; rfl
       rw [hE]
       go_ret
       exact ⟨by simp, by rw [HZ.out]; exact HB.out⟩
def fzB (s : StD) (d : UpD) : Bool := twB d.bits && (decide (s.fin.s < d.f.s) || (!decide (0 < s.nxt.ks.length) && (hnB d && (fnB d && decide (d.f.s / 64 = d.l.s / 64)))))
theorem finalizes_any (s : StD) (d : UpD) (hd : d.ok) (p : StP) (q : UpP) (w : World) : Calls Tryz.prog 29 #[.agg (stV s p).toArray, .agg (upV d q).toArray] w fun x w' => x = .returned (.bool (fzB s d)) ∧ Below w.heap.size w w' := by
 have KK := jdk s.nxt p.nxt
 have KH := jeg d q
 have KF := jfp d q
 have KS := jcx d.f d.l hd.2.1.1 hd.1.1 q.f q.l
 have KT := jfv d hd q
 have KA := jdl d.f s.fin q.f p.fin
 have a0 := jek s p
 have a3 := jfk s p
 have u0 := upV_l d q
 have u12 := upV_f d q
 have HL : Hid ((stV s p).length = 51 ∧ (ltV s.fin p.fin).length = 9 ∧ (cmV s.nxt p.nxt).length = 2 ∧ (upV d q).length = 25 ∧ (ltV d.f q.f).length = 9 ∧ (ltV d.l q.l).length = 9) := show _ from ⟨rfl, rfl, rfl, rfl, rfl, rfl⟩
 unfold fzB
 obtain ⟨tw, ht⟩ : ∃ n, twB d.bits = n := ⟨_, rfl⟩
 obtain ⟨ab, ha⟩ : ∃ n, decide (s.fin.s < d.f.s) = n := ⟨_, rfl⟩
 obtain ⟨kn, hk⟩ : ∃ n, decide (0 < s.nxt.ks.length) = n := ⟨_, rfl⟩
 obtain ⟨hx, hh⟩ : ∃ n, hnB d = n := ⟨_, rfl⟩
 obtain ⟨fn, hf⟩ : ∃ n, fnB d = n := ⟨_, rfl⟩
 obtain ⟨sp, hb⟩ : ∃ n, decide (d.f.s / 64 = d.l.s / 64) = n := ⟨_, rfl⟩
 rw [ht] at KT ⊢
 rw [ha] at KA ⊢
 rw [hk] at KK ⊢
 rw [hh] at KH ⊢
 rw [hf] at KF ⊢
 rw [hb] at KS ⊢
 obtain ⟨LS, hLS⟩ : ∃ L, stV s p = L := ⟨_, rfl⟩
 obtain ⟨LU, hLU⟩ : ∃ L, upV d q = L := ⟨_, rfl⟩
 obtain ⟨XF, hXF⟩ : ∃ L, ltV s.fin p.fin = L := ⟨_, rfl⟩
 obtain ⟨XN, hXN⟩ : ∃ L, cmV s.nxt p.nxt = L := ⟨_, rfl⟩
 obtain ⟨XL, hXL⟩ : ∃ L, ltV d.f q.f = L := ⟨_, rfl⟩
 obtain ⟨XS, hXS⟩ : ∃ L, ltV d.l q.l = L := ⟨_, rfl⟩
 rw [hLS] at a0 a3 HL ⊢
 rw [hLU] at u0 u12 HL KH KF KT ⊢
 rw [hXF] at a0 HL KA
 rw [hXN] at a3 KK HL
 rw [hXL] at u12 KA KS HL
 rw [hXS] at u0 KS HL
 clear hLS hLU hXF hXN hXL hXS hh hk hb hf ha ht hd
 obtain ⟨B1, xS, xU, hs⟩ := box2 w (.cells LS.toArray 38) (.cells LU.toArray 33)
 obtain ⟨z, hz⟩ : ∃ z, w.heap.size = z := ⟨_, rfl⟩
 have HZ : Hid (w.heap.size = z) := hz
 rw [hz] at B1 xS xU hs
 have RN := jac xS 20 XN a3
 go_enter Tryz.func29, Tryz.ntmps29
 go_wp2_with (first | (refine wpList_load_mid rfl 31 _ rfl z 20 rfl _ _ RN Tryz.underlying31 rfl (by rw [HL.out.2.2.1]; kernel_rfl) ?_) | (refine jab (by rfl) 31 _ rfl z 20 rfl _ _ RN Tryz.underlying31 rfl (by rw [HL.out.2.2.1]; kernel_rfl) ?_))
 refine (KK _).mono ?_
 rintro e V1 ⟨rfl, C⟩
 have xS1 : Bq z 38 LS.toArray V1 := (C.block z (by omega)).trans xS
 have xU1 : Bq (z + 1) 33 LU.toArray V1 := (C.block (z + 1) (by omega)).trans xU
 have BV1 := jaa B1 (by omega) C
 have s1 : z + 2 ≤ V1.heap.size := by have := C.size; omega
 have HB : Hid (Below z w V1) := BV1
 clear C KK RN xS xU hs B1 hz
 cases kn with
 | true =>
  clear KH KF KS
  have RU := jal xU1
  go_wp2_with (first | (refine wpList_load_mid rfl 33 _ rfl (z + 1) 0 rfl _ _ RU Tryz.underlying33 rfl (by rw [HL.out.2.2.2.1]; kernel_rfl) ?_) | (refine jab (by rfl) 33 _ rfl (z + 1) 0 rfl _ _ RU Tryz.underlying33 rfl (by rw [HL.out.2.2.2.1]; kernel_rfl) ?_))
  refine (KT _).mono ?_
  rintro e V2 ⟨rfl, C⟩
  have xS2 : Bq z 38 LS.toArray V2 := (C.block z (by omega)).trans xS1
  have xU2 : Bq (z + 1) 33 LU.toArray V2 := (C.block (z + 1) (by omega)).trans xU1
  have BV2 := jaa BV1 (by omega) C
  have s2 : z + 2 ≤ V2.heap.size := by have := C.size; omega
  have RF := jac xS2 0 XF a0
  have RL := jac xU2 12 XL u12
  have HB : Hid (Below z w V2) := BV2
  clear C KT RU xS1 xU1 BV1 s1
  cases tw with
  | false =>
   clear RF RL
   clear BV2 xS2 xU2 s2
   go_wp2
   go_ret
   exact ⟨by simp, by rw [HZ.out]; exact HB.out⟩
  | true =>
   go_wp2_with (first | (refine wpList_load_mid rfl 29 _ rfl z 0 rfl _ _ RF Tryz.underlying29 rfl (by rw [HL.out.2.1]; kernel_rfl) ?_) | (refine jab (by rfl) 29 _ rfl z 0 rfl _ _ RF Tryz.underlying29 rfl (by rw [HL.out.2.1]; kernel_rfl) ?_) | (refine wpList_load_mid rfl 29 _ rfl (z + 1) 12 rfl _ _ RL Tryz.underlying29 rfl (by rw [HL.out.2.2.2.2.1]; kernel_rfl) ?_) | (refine jab (by rfl) 29 _ rfl (z + 1) 12 rfl _ _ RL Tryz.underlying29 rfl (by rw [HL.out.2.2.2.2.1]; kernel_rfl) ?_))
   refine (KA _).mono ?_
   rintro e V3 ⟨rfl, C⟩
   have xS3 : Bq z 38 LS.toArray V3 := (C.block z (by omega)).trans xS2
   have xU3 : Bq (z + 1) 33 LU.toArray V3 := (C.block (z + 1) (by omega)).trans xU2
   have BV3 := jaa BV2 (by omega) C
   have s3 : z + 2 ≤ V3.heap.size := by have := C.size; omega
   have HB : Hid (Below z w V3) := BV3
   clear C KA RF RL xS2 xU2 BV2 s2
   cases ab with
   | false =>
    clear BV3 xS3 xU3 s3
    go_wp2
    go_ret
    exact ⟨by simp, by rw [HZ.out]; exact HB.out⟩
   | true =>
    clear BV3 xS3 xU3 s3
    go_wp2
    go_ret
    exact ⟨by simp, by rw [HZ.out]; exact HB.out⟩
 | false =>
  have RU := jal xU1
  go_wp2_with (first | (refine wpList_load_mid rfl 33 _ rfl (z + 1) 0 rfl _ _ RU Tryz.underlying33 rfl (by rw [HL.out.2.2.2.1]; kernel_rfl) ?_) | (refine jab (by rfl) 33 _ rfl (z + 1) 0 rfl _ _ RU Tryz.underlying33 rfl (by rw [HL.out.2.2.2.1]; kernel_rfl) ?_))
  refine (KH _).mono ?_
  rintro e V2 ⟨rfl, C⟩
  have xS2 : Bq z 38 LS.toArray V2 := (C.block z (by omega)).trans xS1
  have xU2 : Bq (z + 1) 33 LU.toArray V2 := (C.block (z + 1) (by omega)).trans xU1
  have BV2 := jaa BV1 (by omega) C
  have s2 : z + 2 ≤ V2.heap.size := by have := C.size; omega
  have HB : Hid (Below z w V2) := BV2
  clear C KH RU xS1 xU1 BV1 s1
  cases hx with
  | false =>
   clear KF KS
   have RU := jal xU2
   go_wp2_with (first | (refine wpList_load_mid rfl 33 _ rfl (z + 1) 0 rfl _ _ RU Tryz.underlying33 rfl (by rw [HL.out.2.2.2.1]; kernel_rfl) ?_) | (refine jab (by rfl) 33 _ rfl (z + 1) 0 rfl _ _ RU Tryz.underlying33 rfl (by rw [HL.out.2.2.2.1]; kernel_rfl) ?_))
   refine (KT _).mono ?_
   rintro e V3 ⟨rfl, C⟩
   have xS3 : Bq z 38 LS.toArray V3 := (C.block z (by omega)).trans xS2
   have xU3 : Bq (z + 1) 33 LU.toArray V3 := (C.block (z + 1) (by omega)).trans xU2
   have BV3 := jaa BV2 (by omega) C
   have s3 : z + 2 ≤ V3.heap.size := by have := C.size; omega
   have RF := jac xS3 0 XF a0
   have RL := jac xU3 12 XL u12
   have HB : Hid (Below z w V3) := BV3
   clear C KT RU xS2 xU2 BV2 s2
   cases tw with
   | false =>
    clear RF RL
    clear BV3 xS3 xU3 s3
    go_wp2
    go_ret
    exact ⟨by simp, by rw [HZ.out]; exact HB.out⟩
   | true =>
    go_wp2_with (first | (refine wpList_load_mid rfl 29 _ rfl z 0 rfl _ _ RF Tryz.underlying29 rfl (by rw [HL.out.2.1]; kernel_rfl) ?_) | (refine jab (by rfl) 29 _ rfl z 0 rfl _ _ RF Tryz.underlying29 rfl (by rw [HL.out.2.1]; kernel_rfl) ?_) | (refine wpList_load_mid rfl 29 _ rfl (z + 1) 12 rfl _ _ RL Tryz.underlying29 rfl (by rw [HL.out.2.2.2.2.1]; kernel_rfl) ?_) | (refine jab (by rfl) 29 _ rfl (z + 1) 12 rfl _ _ RL Tryz.underlying29 rfl (by rw [HL.out.2.2.2.2.1]; kernel_rfl) ?_))
    refine (KA _).mono ?_
    rintro e V4 ⟨rfl, C⟩
    have xS4 : Bq z 38 LS.toArray V4 := (C.block z (by omega)).trans xS3
    have xU4 : Bq (z + 1) 33 LU.toArray V4 := (C.block (z + 1) (by omega)).trans xU3
    have BV4 := jaa BV3 (by omega) C
    have s4 : z + 2 ≤ V4.heap.size := by have := C.size; omega
    have HB : Hid (Below z w V4) := BV4
    clear C KA RF RL xS3 xU3 BV3 s3
    cases ab with
    | false =>
     clear BV4 xS4 xU4 s4
     go_wp2
     go_ret
     exact ⟨by simp, by rw [HZ.out]; exact HB.out⟩
    | true =>
     clear BV4 xS4 xU4 s4
     go_wp2
     go_ret
     exact ⟨by simp, by rw [HZ.out]; exact HB.out⟩
  | true =>
   have RU := jal xU2
   go_wp2_with (first | (refine wpList_load_mid rfl 33 _ rfl (z + 1) 0 rfl _ _ RU Tryz.underlying33 rfl (by rw [HL.out.2.2.2.1]; kernel_rfl) ?_) | (refine jab (by rfl) 33 _ rfl (z + 1) 0 rfl _ _ RU Tryz.underlying33 rfl (by rw [HL.out.2.2.2.1]; kernel_rfl) ?_))
   refine (KF _).mono ?_
   rintro e V3 ⟨rfl, C⟩
   have xS3 : Bq z 38 LS.toArray V3 := (C.block z (by omega)).trans xS2
   have xU3 : Bq (z + 1) 33 LU.toArray V3 := (C.block (z + 1) (by omega)).trans xU2
   have BV3 := jaa BV2 (by omega) C
   have s3 : z + 2 ≤ V3.heap.size := by have := C.size; omega
   have RL := jac xU3 12 XL u12
   have RS := jac xU3 0 XS u0
   have HB : Hid (Below z w V3) := BV3
   clear C KF RU xS2 xU2 BV2 s2
   cases fn with
   | false =>
    clear KS RL RS
    have RU := jal xU3
    go_wp2_with (first | (refine wpList_load_mid rfl 33 _ rfl (z + 1) 0 rfl _ _ RU Tryz.underlying33 rfl (by rw [HL.out.2.2.2.1]; kernel_rfl) ?_) | (refine jab (by rfl) 33 _ rfl (z + 1) 0 rfl _ _ RU Tryz.underlying33 rfl (by rw [HL.out.2.2.2.1]; kernel_rfl) ?_))
    refine (KT _).mono ?_
    rintro e V4 ⟨rfl, C⟩
    have xS4 : Bq z 38 LS.toArray V4 := (C.block z (by omega)).trans xS3
    have xU4 : Bq (z + 1) 33 LU.toArray V4 := (C.block (z + 1) (by omega)).trans xU3
    have BV4 := jaa BV3 (by omega) C
    have s4 : z + 2 ≤ V4.heap.size := by have := C.size; omega
    have RF := jac xS4 0 XF a0
    have RL := jac xU4 12 XL u12
    have HB : Hid (Below z w V4) := BV4
    clear C KT RU xS3 xU3 BV3 s3
    cases tw with
    | false =>
     clear RF RL
     clear BV4 xS4 xU4 s4
     go_wp2
     go_ret
     exact ⟨by simp, by rw [HZ.out]; exact HB.out⟩
    | true =>
     go_wp2_with (first | (refine wpList_load_mid rfl 29 _ rfl z 0 rfl _ _ RF Tryz.underlying29 rfl (by rw [HL.out.2.1]; kernel_rfl) ?_) | (refine jab (by rfl) 29 _ rfl z 0 rfl _ _ RF Tryz.underlying29 rfl (by rw [HL.out.2.1]; kernel_rfl) ?_) | (refine wpList_load_mid rfl 29 _ rfl (z + 1) 12 rfl _ _ RL Tryz.underlying29 rfl (by rw [HL.out.2.2.2.2.1]; kernel_rfl) ?_) | (refine jab (by rfl) 29 _ rfl (z + 1) 12 rfl _ _ RL Tryz.underlying29 rfl (by rw [HL.out.2.2.2.2.1]; kernel_rfl) ?_))
     refine (KA _).mono ?_
     rintro e V5 ⟨rfl, C⟩
     have xS5 : Bq z 38 LS.toArray V5 := (C.block z (by omega)).trans xS4
     have xU5 : Bq (z + 1) 33 LU.toArray V5 := (C.block (z + 1) (by omega)).trans xU4
     have BV5 := jaa BV4 (by omega) C
     have s5 : z + 2 ≤ V5.heap.size := by have := C.size; omega
     have HB : Hid (Below z w V5) := BV5
     clear C KA RF RL xS4 xU4 BV4 s4
     cases ab with
     | false =>
      clear BV5 xS5 xU5 s5
      go_wp2
      go_ret
      exact ⟨by simp, by rw [HZ.out]; exact HB.out⟩
     | true =>
      clear BV5 xS5 xU5 s5
      go_wp2
      go_ret
      exact ⟨by simp, by rw [HZ.out]; exact HB.out⟩
   | true =>
    go_wp2_with (first | (refine wpList_load_mid rfl 29 _ rfl (z + 1) 12 rfl _ _ RL Tryz.underlying29 rfl (by rw [HL.out.2.2.2.2.1]; kernel_rfl) ?_) | (refine jab (by rfl) 29 _ rfl (z + 1) 12 rfl _ _ RL Tryz.underlying29 rfl (by rw [HL.out.2.2.2.2.1]; kernel_rfl) ?_) | (refine wpList_load_mid rfl 29 _ rfl (z + 1) 0 rfl _ _ RS Tryz.underlying29 rfl (by rw [HL.out.2.2.2.2.2]; kernel_rfl) ?_) | (refine jab (by rfl) 29 _ rfl (z + 1) 0 rfl _ _ RS Tryz.underlying29 rfl (by rw [HL.out.2.2.2.2.2]; kernel_rfl) ?_))
    refine (KS _).mono ?_
    rintro e V4 ⟨rfl, C⟩
    have xS4 : Bq z 38 LS.toArray V4 := (C.block z (by omega)).trans xS3
    have xU4 : Bq (z + 1) 33 LU.toArray V4 := (C.block (z + 1) (by omega)).trans xU3
    have BV4 := jaa BV3 (by omega) C
    have s4 : z + 2 ≤ V4.heap.size := by have := C.size; omega
    have HB : Hid (Below z w V4) := BV4
    clear C KS RL RS xS3 xU3 BV3 s3
    have RU := jal xU4
    go_wp2_with (first | (refine wpList_load_mid rfl 33 _ rfl (z + 1) 0 rfl _ _ RU Tryz.underlying33 rfl (by rw [HL.out.2.2.2.1]; kernel_rfl) ?_) | (refine jab (by rfl) 33 _ rfl (z + 1) 0 rfl _ _ RU Tryz.underlying33 rfl (by rw [HL.out.2.2.2.1]; kernel_rfl) ?_))
    refine (KT _).mono ?_
    rintro e V5 ⟨rfl, C⟩
    have xS5 : Bq z 38 LS.toArray V5 := (C.block z (by omega)).trans xS4
    have xU5 : Bq (z + 1) 33 LU.toArray V5 := (C.block (z + 1) (by omega)).trans xU4
    have BV5 := jaa BV4 (by omega) C
    have s5 : z + 2 ≤ V5.heap.size := by have := C.size; omega
    have RF := jac xS5 0 XF a0
    have RL := jac xU5 12 XL u12
    have HB : Hid (Below z w V5) := BV5
    clear C KT RU xS4 xU4 BV4 s4
    cases tw with
    | false =>
     clear RF RL
     clear BV5 xS5 xU5 s5
     go_wp2
     go_ret
     exact ⟨by simp, by rw [HZ.out]; exact HB.out⟩
    | true =>
     go_wp2_with (first | (refine wpList_load_mid rfl 29 _ rfl z 0 rfl _ _ RF Tryz.underlying29 rfl (by rw [HL.out.2.1]; kernel_rfl) ?_) | (refine jab (by rfl) 29 _ rfl z 0 rfl _ _ RF Tryz.underlying29 rfl (by rw [HL.out.2.1]; kernel_rfl) ?_) | (refine wpList_load_mid rfl 29 _ rfl (z + 1) 12 rfl _ _ RL Tryz.underlying29 rfl (by rw [HL.out.2.2.2.2.1]; kernel_rfl) ?_) | (refine jab (by rfl) 29 _ rfl (z + 1) 12 rfl _ _ RL Tryz.underlying29 rfl (by rw [HL.out.2.2.2.2.1]; kernel_rfl) ?_))
     refine (KA _).mono ?_
     rintro e V6 ⟨rfl, C⟩
     have xS6 : Bq z 38 LS.toArray V6 := (C.block z (by omega)).trans xS5
     have xU6 : Bq (z + 1) 33 LU.toArray V6 := (C.block (z + 1) (by omega)).trans xU5
     have BV6 := jaa BV5 (by omega) C
     have s6 : z + 2 ≤ V6.heap.size := by have := C.size; omega
     have HB : Hid (Below z w V6) := BV6
     clear C KA RF RL xS5 xU5 BV5 s5
     cases ab with
     | false =>
      clear BV6 xS6 xU6 s6
      go_wp2
      go_ret
      exact ⟨by simp, by rw [HZ.out]; exact HB.out⟩
     | true =>
      clear BV6 xS6 xU6 s6
      go_wp2
      go_ret
      exact ⟨by simp, by rw [HZ.out]; exact HB.out⟩
def fkN (slot : Nat) : Nat := min (7 + (slot - 1) / 128) 9
def txV (root : ByteArray) (slot : Nat) : ByteArray := jco (root ++ jbh (fkN slot))
theorem text_any (root : ByteArray) (hr : root.size ≤ 1000000) (slot : Nat) (h0 : 0 < slot) (h6 : U6 slot) (w : World) (hl : Laid w) :
  Calls Tryz.prog 89 #[.string root, .int .u64 (slot : Int)] w fun e w' => e = .returned (.string (txV root slot)) ∧ Below w.heap.size w w' := by
 have hb : slot < 18446744073709551616 := h6
 have KN := fun w : World => jdo ((fkN slot : Nat) : Int) w
 have nsz : (jbh ((fkN slot : Nat) : Int)).size ≤ 1000000 := by rw [jgm]; omega
 have KS := fun (g : Nat) (W : World) (hL : Laid W) (hg : g < W.heap.size) h0 h1 => jfj root (jbh ((fkN slot : Nat) : Int)) _ (jdy _ _) hr nsz g W hL hg h0 h1
 unfold txV
 obtain ⟨T, hT⟩ : ∃ t, jco (root ++ jbh ((fkN slot : Nat) : Int)) = t := ⟨_, rfl⟩
 rw [hT] at KS ⊢
 obtain ⟨N, hN⟩ : ∃ t, jbh ((fkN slot : Nat) : Int) = t := ⟨_, rfl⟩
 rw [hN] at KN KS
 obtain ⟨m, hm⟩ : ∃ m, slot - 1 = m := ⟨_, rfl⟩
 obtain ⟨k, hk⟩ : ∃ k, m / 128 = k := ⟨_, rfl⟩
 have hf : fkN slot = min (7 + k) 9 := by unfold fkN; rw [hm, hk]
 rw [hf] at KN
 have w1 : IntKind.u64.wrap ((slot : Int) - 1) = (m : Int) := by rw [IntKind.wrap_u64]; omega
 have w2 : (m : Int) / 128 = (k : Int) := by omega
 have w2' : (m : Int).tdiv 128 = (k : Int) := by rw [Int.tdiv_eq_ediv_of_nonneg (by omega)]; omega
 have kb : k < 18446744073709551000 := by omega
 have w3 : IntKind.u64.wrap (k : Int) = (k : Int) := by rw [IntKind.wrap_u64]; omega
 have w4 : IntKind.u64.wrap (7 + (k : Int)) = 7 + (k : Int) := by rw [IntKind.wrap_u64]; omega
 clear hT hN hm hk hf nsz
 have HL : Hid _ := hl
 clear hl
 go_enter Tryz.func89, Tryz.ntmps89
 have em : ((min (7 + k) 9 : Nat) : Int) = min (7 + (k : Int)) 9 := by omega
 rw [em] at KN
 obtain ⟨f, hfm⟩ : ∃ f, min (7 + (k : Int)) 9 = f := ⟨_, rfl⟩
 rw [hfm] at KN
 go_wp2_with fail
 first | rw [hfm] | skip
 refine (KN _).mono ?_
 rintro e W ⟨rfl, B1⟩
 have A2 : Below W.heap.size W (W.alloc (.cells #[.string root, .string N] 9)) := (Below.refl _ W).alloc (Nat.le_refl _) _
 have hx := World.alloc_heap_new W (.cells #[.string root, .string N] 9)
 have K := KS W.heap.size _ ((HL.out.below B1).below A2) (by simp) (by rw [Lib.cell_of_heap hx]; rfl) (by rw [Lib.cell_of_heap hx]; rfl)
 have BX := jaa B1 B1.size A2
 have HB : Hid (_ ∧ _) := ⟨BX, (World.size_alloc W (.cells #[.string root, .string N] 9) : _)⟩
 clear A2 hx BX B1 KN KS
 go_wp2_with fail
 refine K.mono ?_
 rintro e W3 ⟨rfl, B3⟩
 have HX : Hid _ := jaa HB.out.1 (by have := HB.out.1.size; exact this) B3
 clear B3 K HB
 go_wp2
 go_ret
 exact ⟨by simp, HX.out⟩
attribute [local go_sem] Oper.semAt_some
def kyS (ks : List ByteArray) (l : List Nat) : List ByteArray := l.map fun i => ks.getD i ⟨#[]⟩
theorem kyS_snoc (ks : List ByteArray) (l : List Nat) (i : Nat) : kyS ks (l ++ [i]) = kyS ks l ++ [ks.getD i ⟨#[]⟩] := by simp [kyS]
theorem jgw (ks : List ByteArray) (l : List Nat) : (kyS ks l).length = l.length := by simp [kyS]
theorem ky_kind {W : World} {zz n k : Nat} {e : TypeId} {size : Nat} {v : Value} {xs : List Value} (h : W.ownsRow zz e size v n xs) (hk : v.ownBlock = some k) : ∃ c, W.heap[k]? = some (.cells c e (0, 0)) := by
 rcases h.2 with ⟨rfl, _⟩ | ⟨g, c, cur, rfl, _, hg, _⟩
 ·cases hk
 ·injection hk with hk
  subst hk
  exact ⟨cur, hg⟩
theorem ky_owned {A C : World} {b n : Nat} {e : TypeId} {size : Nat} {v : Value} {xs : List Value} {row : Option Nat} (h : A.ownsRow b e size v n xs) (hg : A.grownBy C row) (hr : ∀ r, row = some r → ∃ o : Obj, A.heap[r]? = some o ∧ o.isCells = false) : C.ownsRow b e size v n xs := by
 refine h.kept hg ?_
 cases e' : v.ownBlock with
 | none => exact .inl rfl
 | some k =>
  obtain ⟨c, hk⟩ := ky_kind h e'
  refine .inr fun e2 => ?_
  obtain ⟨o, ho, hc⟩ := hr k e2.symm
  rw [hk] at ho
  cases ho
  cases hc
def KySt (z : Nat) (w : World) (LC : Array Value) (ks : List ByteArray) (pre : List Mb) (W : World) : Prop := Bq z 31 LC W ∧ z + 3 < W.heap.size ∧ Below z w W ∧ ∃ v, Bq (z + 2) 27 #[v] W ∧ W.ownsRow (z + 4) 9 1 v pre.length ((kyS ks (pre.map (·.val))).map .string)
theorem KySt.own {z : Nat} {w A C : World} {LC : Array Value} {ks : List ByteArray} {pre : List Mb} {row : Option Nat} (h : KySt z w LC ks pre A) (hg : A.grownBy C row) (hr : ∀ r, row = some r → z ≤ r ∧ ∃ o : Obj, A.heap[r]? = some o ∧ o.isCells = false) : KySt z w LC ks pre C := by
 obtain ⟨h0, h1, h2, v, h3, h4⟩ := h
 exact ⟨h0.own hg (fun r e => (hr r e).2), Nat.lt_of_lt_of_le h1 hg.size, h2.grown hg (by omega) (fun k e => (hr k e).1), v, h3.own hg (fun r e => (hr r e).2), ky_owned h4 hg (fun r e => (hr r e).2)⟩
theorem keys_any (c : CmD) (qc : Pl) (d : UpD) (hd : d.ok) (q : UpP) (n : Nat) (w : World) (hn : n ≤ w.heap.size) (hp : slS n w qc.a c.ks) :
  Calls Tryz.prog 88 #[.agg (cmV c qc).toArray, .agg (upV d q).toArray] w fun x w' => (∃ a cp, x = .returned (.slice a (kyS c.ks (sgL d.bits 16)).length cp) ∧ txS (kyS c.ks (sgL d.bits 16)) a w') ∧ Below w.heap.size w w' := by
 obtain ⟨L, hL⟩ : ∃ L, (upV d q).toArray = L := ⟨_, rfl⟩
 have h22 : L[22]? = some (.int .u64 (d.bits : Int)) := by rw [← hL]; rfl
 have h25 : Hid (L.size = 25) := show L.size = 25 by rw [← hL]; rfl
 obtain ⟨LC, hLC⟩ : ∃ L, (cmV c qc).toArray = L := ⟨_, rfl⟩
 have hb : d.bits < 18446744073709551616 := hd.2.2.1
 obtain ⟨b, hbb⟩ : ∃ b, d.bits = b := ⟨_, rfl⟩
 rw [hbb] at h22 hb ⊢
 rw [hL, hLC]
 clear hL hbb hd
 refine (callsIn_wide (n := 9)).1 ?_
 refine callsIn_of_wp_marks Tryz.func88 rfl trivial ?_ rfl
 refine wpIn_wide.2 ?_
 simp only [Tryz.ntmps88, List.size_toArray, List.length_cons, List.length_nil, Nat.reduceAdd, Nat.reduceSub, Array.replicate_succ, Array.replicate_zero, List.push_toArray, List.append_toArray, List.nil_append, List.cons_append]
 obtain ⟨B1, hx, hy, hz0, hs⟩ := box3 w (.cells LC 31) (.cells L 33) (.cells #[.slice none 0 0] 27)
 go_wp2_with (refine wpList_load_row rfl 33 _ rfl (w.heap.size + 1) rfl _ _ _ _ hy Tryz.underlying33 rfl (by rw [h25.out]; kernel_rfl) ?_)
 refine (signing_any L _).mono ?_
 rintro e w2 ⟨rfl, hw2⟩
 obtain ⟨z, hz⟩ : ∃ c, w.heap.size = c := ⟨_, rfl⟩
 have HZ : Hid (w.heap.size = z) := hz
 rw [hs, hz]
 rw [hz] at hx hy hz0 B1 hn hs
 obtain ⟨B2, hx2, hs2⟩ := box1 (((w.alloc (.cells LC 31)).alloc (.cells L 33)).alloc (.cells #[.slice none 0 0] 27)) (.cells L 33)
 rw [← hw2, hs] at B2 hx2 hs2
 have P0 : Bq z 31 LC w2 := (B2.block _ (by omega)).trans hx
 have P2 : Bq (z + 2) 27 #[.slice none 0 0] w2 := (B2.block _ (by omega)).trans hz0
 have hcx : UbIn (z + 3) b w2 := ⟨L, hx2, h25.out, h22⟩
 have BW2 : Below z w w2 := B1.trans (B2.mono (by omega))
 clear hw2 B2 hx2 hy hx hz0 hs B1 hz h22 h25
 obtain ⟨i0, hi0, hz0, hz1, hz2⟩ := info_parts info_strI
 go_wp2_with fail
 have hxz : z + 3 < w2.heap.size := by omega
 refine (wpIn_wide (n := 9)).1 ?_
 refine wpIn_rangeFunc_ownH rfl (by omega) (gf := 93) (lb := #[.pointer (some ⟨z + 3, 0, none⟩)]) rfl trivial (enters_of Tryz.func93 (by kernel_rfl) rfl)
  (jfx _ (z + 3) b hb w2 hcx) (fun h k => UbK.trans h k) (fun W l o o' hl h1 h2 h3 hx => hx.belowN (belowK_b (n₀ := z + 4) (w := w2) (by omega) W l o o' hl h1 h2 h3) (by omega)) (Below.refl _ _) (fun _ => rfl)
  (fun pre W => KySt z w LC c.ks pre W)
  (fun _ _ _ => False)
  (fun s A C row hs hg hr => hs.own hg (fun r e => ⟨Nat.le_trans (by omega) (hr r e).1, (hr r e).2⟩))
  (fun c s A C row hs hg hr => hs)
  ⟨P0, hxz, BW2, _, P2, World.ownsRow_nil _ _ _ _⟩
  (fun x a' _ => a' = { tmps := #[.agg LC, .agg L, .pointer (some ⟨z, 0, none⟩), .pointer (some ⟨z + 1, 0, none⟩), .slice none 0 0, .pointer (some ⟨z + 2, 0, none⟩), .int .i64 (x.val : Int), undef, .agg L, .func (.func 93) #[] #[.pointer (some ⟨z + 3, 0, none⟩)], .int .i64 (x.val : Int), undef, undef, undef, undef, undef, undef, undef, undef, undef, undef, undef, undef, undef, undef, undef], defers := [] })
  (fun x a' _ X Y row hs hg hr => hs)
  ?assign ?body ?done ?stop
 case assign =>
  rintro l pre x W K hI hK
  dsimp only [mbEnc]
  gi_wp2
  exact hK _ _ (KeepsFrom.refl _ _) (fun h => h) hI rfl
 case body =>
  rintro l pre x a' W hl ⟨r, hr⟩ ⟨hC, hxW, hB, v, hP, hown⟩ rfl hlt
  have hlt' : pre.length < 16 := hlt
  have hCl := hC.lt
  have c0 : W.cell? ⟨z, 0, none⟩ = some (.slice qc.a c.ks.length qc.c) := (hC.cell 0).trans (by rw [← hLC]; rfl)
  have hpW := jan (hB.mono hn) hp
  have cl : W.cell? ⟨z + 2, 0, none⟩ = some v := hP.cell 0
  have fl := hP.fr 0
  obtain ⟨i, hi16⟩ := x
  obtain ⟨ao, cp0, hv⟩ : ∃ ao c0, v = .slice ao pre.length c0 := by
   rcases hown.2 with ⟨h, h0⟩ | ⟨g, c, _, h, _⟩
   ·exact ⟨none, 0, by rw [h, h0]⟩
   ·exact ⟨_, c, h⟩
  by_cases hik : i < c.ks.length
  ·have l0 : (i : Int) < c.ks.length := by omega
   obtain ⟨k0, hk0⟩ : ∃ k, c.ks[i]? = some k := ⟨c.ks[i]'hik, List.getElem?_eq_getElem hik⟩
   obtain ⟨bk, ok, hqa, hbk, ck⟩ := jci hpW i k0 hk0
   rw [hqa] at c0
   have hG : c.ks.getD i ⟨#[]⟩ = k0 := by rw [List.getD_eq_getElem?_getD, hk0]; rfl
   have A1 : Below W.heap.size W (W.alloc (.cells #[.string k0] 9)) := (Below.refl _ W).alloc (Nat.le_refl _) _
   have hown1 := jax hown A1
   have hC1 : Bq z 31 LC (W.alloc (.cells #[.string k0] 9)) := hC.below A1
   have hP1 : Bq (z + 2) 27 #[v] (W.alloc (.cells #[.string k0] 9)) := hP.below A1
   subst hv
   have HX : Hid (_ ∧ _ ∧ _ ∧ _ ∧ _ ∧ _ ∧ _) := ⟨A1, hown1, hC1, hP1, hxW, hB, hG⟩
   clear hC hxW hB hP hown hpW A1 hown1 hC1 hP1 hG hCl fl
   gi_wp2_with (gi_at_builtin; refine wpListIn_append_own _ rfl _ _ 27 rfl (z + 4) 9 i0 (.string ⟨#[]⟩) 1 16 Tryz.underlying27 hi0 hz0 hz1 hz2 rfl (by decide) _ pre.length _ rfl HX.out.2.1 ⟨W.heap.size, 0, none⟩ 1 1 [.string k0] rfl rfl (jcg _ _ _) (by intro u hu; simp at hu; subst hu; rfl) (by unfold maxLen; omega) (by omega) (by have := HX.out.2.2.2.2.1; simp; omega) ?_)
   intro V6 w6 k2 k3 k4
   obtain ⟨g, c6, rfl⟩ : ∃ g c, V6 = .slice (some ⟨g, 0, none⟩) (pre.length + 1) c := by
    rcases k2.2 with ⟨_, h⟩ | ⟨g, c, _, h, _⟩
    ·omega
    ·exact ⟨g, c, h⟩
   obtain ⟨A1, hown1, hC1, hP1, hxW, hB, hG⟩ := HX.out
   have hvl : ∀ k, some k = (Value.slice ao pre.length cp0).ownBlock → z + 4 ≤ k := fun k e => (hown1.lt k e.symm).1
   have hP6 : Bq (z + 2) 27 #[.slice ao pre.length cp0] w6 := (k3.block (z + 2) (by simp; omega) (fun e => by have := hvl _ e; omega)).trans hP1
   have hC6 : Bq z 31 LC w6 := (k3.block z (by simp; omega) (fun e => by have := hvl _ e; omega)).trans hC1
   have cB6 := hP6.cell 0
   have fB6 := hP6.fr 0
   have hs6 := k3.size
   have hP7 := hP6.put (.slice (some ⟨g, 0, none⟩) (pre.length + 1) c6)
   have hC7 : Bq z 31 LC (w6.setCell ⟨z + 2, 0, none⟩ (.slice (some ⟨g, 0, none⟩) (pre.length + 1) c6)) := hC6.other (by omega) _ _
   have hown7 : (w6.setCell ⟨z + 2, 0, none⟩ (.slice (some ⟨g, 0, none⟩) (pre.length + 1) c6)).ownsRow (z + 4) 9 1 (.slice (some ⟨g, 0, none⟩) (pre.length + 1) c6) (pre.length + 1) ((kyS c.ks (pre.map (·.val))).map .string ++ [.string k0]) :=
    k2.kept (row := some (z + 2)) ⟨rfl, rfl, rfl, by simp [World.setCell], fun k _ hk => Below.heap_setCell _ _ _ _ (fun e => hk (by simp [e]))⟩ (Or.inr (fun e => by have := (k2.lt (z + 2) e).1; omega))
   have G16 : ∀ k, k < W.heap.size → some k ≠ (Value.slice ao pre.length cp0).ownBlock → w6.heap[k]? = W.heap[k]? := fun k h1 h2 => (k3.block k (by simp; omega) h2).trans (A1.block k h1)
   have B67 : ∀ m, m ≤ z + 2 → Below m W (w6.setCell ⟨z + 2, 0, none⟩ (.slice (some ⟨g, 0, none⟩) (pre.length + 1) c6)) := fun m hm => Below.setCell (p := ⟨z + 2, 0, none⟩) ⟨k3.os.trans A1.os, k3.tape.trans A1.tape, k3.output.trans A1.output, Nat.le_trans A1.size hs6, fun k hk => G16 k (by omega) (fun e => by have := hvl k e; omega)⟩ hm _
   have KF : KeepsFrom w2.heap.size W (w6.setCell ⟨z + 2, 0, none⟩ (.slice (some ⟨g, 0, none⟩) (pre.length + 1) c6)) := by
    refine (show KeepsFrom w2.heap.size W w6 from ⟨Nat.le_trans A1.size hs6, fun k o hk ho hc => ?_⟩).trans (jdb _ ⟨z + 2, 0, none⟩ _ _)
    have hkW := (Array.getElem?_eq_some_iff.1 ho).1
    refine (G16 k hkW (fun e => ?_)).trans ho
    obtain ⟨c', hc'⟩ := ky_kind hown1 e.symm
    rw [A1.block k hkW, ho] at hc'
    cases hc'
    cases hc
   have n7 : UbK (z + 3) b W (w6.setCell ⟨z + 2, 0, none⟩ (.slice (some ⟨g, 0, none⟩) (pre.length + 1) c6)) := fun h => by
    obtain ⟨cs, h1, h2, h3⟩ := h
    refine ⟨cs, ?_, h2, h3⟩
    exact (Below.heap_setCell _ _ _ _ (show z + 3 ≠ z + 2 by omega)).trans ((G16 (z + 3) hxW (fun e => by have := hvl _ e; omega)).trans h1)
   have s7 : z + 3 < (w6.setCell ⟨z + 2, 0, none⟩ (.slice (some ⟨g, 0, none⟩) (pre.length + 1) c6)).heap.size := Nat.lt_of_lt_of_le hxW (Nat.le_trans (Nat.le_trans A1.size hs6) (by simp [World.setCell]))
   have HY : Hid (_ ∧ _ ∧ _ ∧ _ ∧ _ ∧ _ ∧ _ ∧ _) := ⟨hP7, hC7, hown7, hB.trans (B67 z (by omega)), KF, n7, s7, hG⟩
   clear hP7 hC7 hown7 B67 KF n7 s7 hP6 hC6 k2 k3 k4 A1 hown1 hC1 hP1 G16 hB hG hxW HX
   gi_wp2
   obtain ⟨hP7, hC7, hown7, hB7, KF, n7, s7, hG⟩ := HY.out
   refine (?_ : KeepsFrom _ W _ ∧ UbK _ _ W _ ∧ KySt z w LC c.ks (pre ++ [_]) _)
   refine ⟨KF, n7, hC7, s7, hB7, _, hP7, ?_⟩
   rw [List.map_append, List.map_cons, List.map_nil, kyS_snoc, hG, List.map_append, List.length_append]
   exact hown7
  ·have l0 : ¬ (i : Int) < c.ks.length := by omega
   have hG : c.ks.getD i ⟨#[]⟩ = ⟨#[]⟩ := by rw [List.getD_eq_getElem?_getD, List.getElem?_eq_none (by omega)]; rfl
   have A1 : Below W.heap.size W (W.alloc (.cells #[.string ⟨#[]⟩] 9)) := (Below.refl _ W).alloc (Nat.le_refl _) _
   have hown1 := jax hown A1
   have hC1 : Bq z 31 LC (W.alloc (.cells #[.string ⟨#[]⟩] 9)) := hC.below A1
   have hP1 : Bq (z + 2) 27 #[v] (W.alloc (.cells #[.string ⟨#[]⟩] 9)) := hP.below A1
   subst hv
   have HX : Hid (_ ∧ _ ∧ _ ∧ _ ∧ _ ∧ _ ∧ _) := ⟨A1, hown1, hC1, hP1, hxW, hB, hG⟩
   clear hC hxW hB hP hown hpW A1 hown1 hC1 hP1 hG hCl fl
   gi_wp2_with (gi_at_builtin; refine wpListIn_append_own _ rfl _ _ 27 rfl (z + 4) 9 i0 (.string ⟨#[]⟩) 1 16 Tryz.underlying27 hi0 hz0 hz1 hz2 rfl (by decide) _ pre.length _ rfl HX.out.2.1 ⟨W.heap.size, 0, none⟩ 1 1 [.string ⟨#[]⟩] rfl rfl (jcg _ _ _) (by intro u hu; simp at hu; subst hu; rfl) (by unfold maxLen; omega) (by omega) (by have := HX.out.2.2.2.2.1; simp; omega) ?_)
   intro V6 w6 k2 k3 k4
   obtain ⟨g, c6, rfl⟩ : ∃ g c, V6 = .slice (some ⟨g, 0, none⟩) (pre.length + 1) c := by
    rcases k2.2 with ⟨_, h⟩ | ⟨g, c, _, h, _⟩
    ·omega
    ·exact ⟨g, c, h⟩
   obtain ⟨A1, hown1, hC1, hP1, hxW, hB, hG⟩ := HX.out
   have hvl : ∀ k, some k = (Value.slice ao pre.length cp0).ownBlock → z + 4 ≤ k := fun k e => (hown1.lt k e.symm).1
   have hP6 : Bq (z + 2) 27 #[.slice ao pre.length cp0] w6 := (k3.block (z + 2) (by simp; omega) (fun e => by have := hvl _ e; omega)).trans hP1
   have hC6 : Bq z 31 LC w6 := (k3.block z (by simp; omega) (fun e => by have := hvl _ e; omega)).trans hC1
   have cB6 := hP6.cell 0
   have fB6 := hP6.fr 0
   have hs6 := k3.size
   have hP7 := hP6.put (.slice (some ⟨g, 0, none⟩) (pre.length + 1) c6)
   have hC7 : Bq z 31 LC (w6.setCell ⟨z + 2, 0, none⟩ (.slice (some ⟨g, 0, none⟩) (pre.length + 1) c6)) := hC6.other (by omega) _ _
   have hown7 : (w6.setCell ⟨z + 2, 0, none⟩ (.slice (some ⟨g, 0, none⟩) (pre.length + 1) c6)).ownsRow (z + 4) 9 1 (.slice (some ⟨g, 0, none⟩) (pre.length + 1) c6) (pre.length + 1) ((kyS c.ks (pre.map (·.val))).map .string ++ [.string ⟨#[]⟩]) :=
    k2.kept (row := some (z + 2)) ⟨rfl, rfl, rfl, by simp [World.setCell], fun k _ hk => Below.heap_setCell _ _ _ _ (fun e => hk (by simp [e]))⟩ (Or.inr (fun e => by have := (k2.lt (z + 2) e).1; omega))
   have G16 : ∀ k, k < W.heap.size → some k ≠ (Value.slice ao pre.length cp0).ownBlock → w6.heap[k]? = W.heap[k]? := fun k h1 h2 => (k3.block k (by simp; omega) h2).trans (A1.block k h1)
   have B67 : ∀ m, m ≤ z + 2 → Below m W (w6.setCell ⟨z + 2, 0, none⟩ (.slice (some ⟨g, 0, none⟩) (pre.length + 1) c6)) := fun m hm => Below.setCell (p := ⟨z + 2, 0, none⟩) ⟨k3.os.trans A1.os, k3.tape.trans A1.tape, k3.output.trans A1.output, Nat.le_trans A1.size hs6, fun k hk => G16 k (by omega) (fun e => by have := hvl k e; omega)⟩ hm _
   have KF : KeepsFrom w2.heap.size W (w6.setCell ⟨z + 2, 0, none⟩ (.slice (some ⟨g, 0, none⟩) (pre.length + 1) c6)) := by
    refine (show KeepsFrom w2.heap.size W w6 from ⟨Nat.le_trans A1.size hs6, fun k o hk ho hc => ?_⟩).trans (jdb _ ⟨z + 2, 0, none⟩ _ _)
    have hkW := (Array.getElem?_eq_some_iff.1 ho).1
    refine (G16 k hkW (fun e => ?_)).trans ho
    obtain ⟨c', hc'⟩ := ky_kind hown1 e.symm
    rw [A1.block k hkW, ho] at hc'
    cases hc'
    cases hc
   have n7 : UbK (z + 3) b W (w6.setCell ⟨z + 2, 0, none⟩ (.slice (some ⟨g, 0, none⟩) (pre.length + 1) c6)) := fun h => by
    obtain ⟨cs, h1, h2, h3⟩ := h
    refine ⟨cs, ?_, h2, h3⟩
    exact (Below.heap_setCell _ _ _ _ (show z + 3 ≠ z + 2 by omega)).trans ((G16 (z + 3) hxW (fun e => by have := hvl _ e; omega)).trans h1)
   have s7 : z + 3 < (w6.setCell ⟨z + 2, 0, none⟩ (.slice (some ⟨g, 0, none⟩) (pre.length + 1) c6)).heap.size := Nat.lt_of_lt_of_le hxW (Nat.le_trans (Nat.le_trans A1.size hs6) (by simp [World.setCell]))
   have HY : Hid (_ ∧ _ ∧ _ ∧ _ ∧ _ ∧ _ ∧ _ ∧ _) := ⟨hP7, hC7, hown7, hB.trans (B67 z (by omega)), KF, n7, s7, hG⟩
   clear hP7 hC7 hown7 B67 KF n7 s7 hP6 hC6 k2 k3 k4 A1 hown1 hC1 hP1 G16 hB hG hxW HX
   gi_wp2
   obtain ⟨hP7, hC7, hown7, hB7, KF, n7, s7, hG⟩ := HY.out
   refine (?_ : KeepsFrom _ W _ ∧ UbK _ _ W _ ∧ KySt z w LC c.ks (pre ++ [_]) _)
   refine ⟨KF, n7, hC7, s7, hB7, _, hP7, ?_⟩
   rw [List.map_append, List.map_cons, List.map_nil, kyS_snoc, hG, List.map_append, List.length_append]
   exact hown7
 case done =>
  rintro D ys W hD rfl ⟨hC, hxW, hB, v, hP, hown⟩ hK
  have c0 : W.cell? ⟨z + 2, 0, none⟩ = some v := hP.cell 0
  rw [jgu, mbT_len] at hown
  have HX : Hid (_ ∧ _) := ⟨hB, hown⟩
  clear hB hown hC
  go_wp2
  obtain ⟨hB, hown⟩ := HX.out
  have hbP := belowK_b (n₀ := z) (w := w2) (by omega) W D _ (.deferred none) hD hK rfl rfl
  refine ⟨by simp, .inl ⟨_, _, rfl, run_takeDeferred hK, ?_⟩⟩
  refine ⟨v, by simp [results, Tryz.results88, go_sem], ?_, ?_⟩
  ·have hl : mbT b 16 (Nat.le_refl _) = mbT b 16 (Nat.le_refl _) := rfl
   rcases hown.2 with ⟨rfl, h0⟩ | ⟨g, cp, cur, rfl, hg1, hg2, hg3⟩
   ·refine ⟨none, 0, ?_, .inl ?_⟩
    ·rw [jgw, h0]
    ·exact List.eq_nil_of_length_eq_zero (by rw [jgw, h0])
   ·refine ⟨some ⟨g, 0, none⟩, cp, by rw [jgw], .inr ⟨g, 0, rfl, ?_, ?_⟩⟩
    ·have hlt := hown.lt g rfl
     simpa using hlt.2
    ·intro j x he
     have hgD : g ≠ D := fun e => by
      obtain ⟨cc, hcc⟩ := ky_kind hown (k := g) rfl
      rw [e, hK] at hcc
      cases hcc
     refine (World.cell?_of_block (w := W) (World.putObj_heap_other hgD)).trans ?_
     rw [Nat.zero_add]
     have h9 := hown.cells (g := g) rfl j (.string x) (by rw [List.getElem?_map, he]; rfl)
     rw [Addr.add_lit, Nat.zero_add] at h9
     exact h9
  ·rw [HZ.out]
   exact hB.trans hbP
 case stop =>
  rintro D c pre W hD hq hF hK
  exact hF.elim
end Go.Proofs.YtoddangedbefgabGreatDoor
