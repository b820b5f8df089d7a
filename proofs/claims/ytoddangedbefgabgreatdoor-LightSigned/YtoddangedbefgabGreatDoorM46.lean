/- Lemmas: What the package's Apply does, whatever the message; what follows of a store behind it: pure. No condition but on sizes that no machine has. What is right was signed by members that there are; what becomes final: pure. No condition. The law LightSigned, walked. No condition but on sizes that no machine has. -/
import Derived.Test.YtoddangedbefgabGreatDoorM45
set_option maxRecDepth 20000
set_option maxHeartbeats 8000000
namespace Go.Proofs.YtoddangedbefgabGreatDoor
open Go.RowKit Go.Shelf Go.Sort
theorem apply_any (s : StD) (hs0 : s.ok) (zs : szT s) (d : UpD) (hd : d.ok) (zd : szU d) (p : StP) (q : UpP) (now : Nat) (n : Nat) (w : World) (hL : Ls w) (hn : n ≤ w.heap.size) (hps : stIn n w s p) (hp : upIn n w d q) :
  Calls Tryz.prog 10 #[.agg (stV s p).toArray, .agg (upV d q).toArray, .int .u64 (now : Int)] w fun x w' => (∃ q', x = .returned (.tuple #[.agg (stV (apS s d now) q').toArray, .int .i64 (chE s d now)]) ∧ stIn w'.heap.size w' (apS s d now) q') ∧ Below w.heap.size w w' := by
 by_cases he : chE s d now = 0
 ·rw [he]
  refine (apply_yes s hs0 zs d hd zd p q now n w hL hn hps hp he).mono ?_
  rintro e w' ⟨⟨q', rfl, g⟩, hb⟩
  exact ⟨⟨q', rfl, g.stIn⟩, hb⟩
 ·have e1 : apS s d now = s := if_pos he
  rw [e1]
  refine (apply_no s hs0 zs d hd zd p q now n w hL hn hps hp he).mono ?_
  rintro e w' ⟨⟨q', rfl, g⟩, hb⟩
  exact ⟨⟨q', rfl, g.stIn⟩, hb⟩
/-! ### What is right has these parts right -/
structure ChOk (s : StD) (d : UpD) (now : Nat) : Prop where
 many : sgN d.bits ≠ 0
 ho : ltHo d.l = true
 fl : flB d now = true
 pk : pkB s d = true
 nw : nwB s d = true
 cf : cfE d = 0
 cn : cnE s d = 0
 sg : sgS s d = true
theorem ch_ok {s : StD} {d : UpD} {now : Nat} (h : chE s d now = 0) : ChOk s d now := by
 unfold chE at h
 split at h
 ·omega
 rename_i h1
 split at h
 ·omega
 rename_i h2
 split at h
 ·omega
 rename_i h3
 split at h
 ·omega
 rename_i h4
 split at h
 ·omega
 rename_i h5
 split at h
 ·rename_i h6
  exact absurd h h6
 rename_i h6
 split at h
 ·rename_i h7
  exact absurd h h7
 rename_i h7
 split at h
 ·omega
 rename_i h8
 refine ⟨h1, by simpa using h2, by simpa using h3, by simpa using h4, by simpa using h5, ?_, ?_, by simpa using h8⟩
 ·exact Classical.byContradiction fun g => h6 g
 ·exact Classical.byContradiction fun g => h7 g
theorem fl_slots {d : UpD} {now : Nat} (h : flB d now = true) : d.slot ≤ now ∧ d.l.s < d.slot ∧ d.f.s ≤ d.l.s := by
 unfold flB at h
 simp only [Bool.and_eq_true, decide_eq_true_eq] at h
 omega
/-! ### Taking over -/
theorem tk_fin (s : StD) (d : UpD) : (tkS s d).fin = if s.fin.s < d.f.s then d.f else s.fin := by
 show (if tkU s d = true then d.f else s.fin) = _
 unfold tkU
 by_cases h : s.fin.s < d.f.s
 ·rw [if_pos h, if_pos (decide_eq_true h)]
 ·rw [if_neg h, if_neg (by simp [h])]
theorem apS_cases (s : StD) (d : UpD) (now : Nat) : chE s d now ≠ 0 ∧ apS s d now = s ∨ chE s d now = 0 ∧ fzB (apT s d) d = true ∧ apS s d now = tkS (apT s d) d ∨ chE s d now = 0 ∧ fzB (apT s d) d = false ∧ apS s d now = apT s d := by
 unfold apS
 by_cases h : chE s d now = 0
 ·rw [if_neg (fun g => g h)]
  cases g : fzB (apT s d) d with
  | true => exact .inr (.inl ⟨h, rfl, if_pos rfl⟩)
  | false => exact .inr (.inr ⟨h, rfl, if_neg (by decide)⟩)
 ·rw [if_pos h]
  exact .inl ⟨h, rfl⟩
theorem toE_all {b : Bool} : ∀ (l : List ByteArray) (m p : Pt), toE m (elsT b l) = some p → ∀ x ∈ l, x.size = 5
 | [], _, _, _, x, hx => by cases hx
 | y :: l, m, p, h, x, hx => by
  have h' : toE m (elN b y :: elsT b l) = some p := h
  by_cases hy : frB y = true ∧ ¬ (b = true ∧ nmN y = iN)
  ·have e : (elN b y).val = some (nmN y) := by unfold elN; rw [dif_pos hy]
   simp only [toE, e] at h'
   rcases List.mem_cons.1 hx with g | g
   ·subst g
    have h1 := hy.1
    unfold frB at h1
    simp only [Bool.and_eq_true, decide_eq_true_eq] at h1
    exact h1.1.1
   ·exact toE_all l _ p h' x g
  ·have e : (elN b y).val = none := by unfold elN; rw [dif_neg hy]
   simp only [toE, e] at h'
   cases h'
theorem al_sizes {l : List ByteArray} {t s : ByteArray} (h : alB l t s = true) : ∀ x ∈ l, x.size = 5 := by
 unfold alB at h
 split at h
 ·rename_i p hp
  exact toE_all l _ p hp
 ·cases h
theorem rk_is {ks : List ByteArray} {b : Nat} (h : ∀ x ∈ kyS ks (sgL b 16), x.size = 5) : rkL ks b 16 = kyS ks (sgL b 16) := by
 unfold rkL
 congr 1
 refine List.filter_eq_self.2 fun i hi => ?_
 refine decide_eq_true (Classical.byContradiction fun g => ?_)
 have h1 := h (ks.getD i ⟨#[]⟩) (List.mem_map.2 ⟨i, hi, rfl⟩)
 rw [List.getD_eq_getElem?_getD, List.getElem?_eq_none (by omega)] at h1
 cases h1
theorem signed_now {s : StD} {d : UpD} {now : Nat} (h : chE s d now = 0) :
  alB (rkL (mbC s d).ks d.bits 16) (txV (hrV d.l) d.slot) d.sig = true ∧ (rkL (mbC s d).ks d.bits 16).length = sgN d.bits ∧ 0 < sgN d.bits ∧ 0 < d.slot := by
 have c := ch_ok h
 have hs : alB (kyS (mbC s d).ks (sgL d.bits 16)) (txV (hrV d.l) d.slot) d.sig = true := c.sg
 have e := rk_is (al_sizes hs)
 refine ⟨by rw [e]; exact hs, by rw [e, jgw]; rfl, by have := c.many; omega, by have := fl_slots c.fl; omega⟩
theorem signed_fin {s : StD} {d : UpD} {now : Nat} (h : chE s d now = 0) (hf : (apS s d now).fin ≠ s.fin) :
  rtE (hdC d.f.s d.f.u d.f.p d.f.t d.f.b) 3 = 0 ∧ 32 ≤ 3 * sgN d.bits ∧ chk (hrV d.f) d.fb 3 d.l.t = true := by
 have c := ch_ok h
 rcases apS_cases s d now with ⟨h1, _⟩ | ⟨_, hz, e⟩ | ⟨_, _, e⟩
 ·exact absurd h h1
 ·rw [e, tk_fin] at hf
  have hT : (apT s d).fin = s.fin := rfl
  rw [hT] at hf
  by_cases hl : s.fin.s < d.f.s
  ·have hn : fnB d = true := by
    unfold fnB
    rw [Bool.or_eq_true]
    refine .inr ?_
    cases he : emB d.f with
    | false => rfl
    | true =>
     rw [(emB_iff _).1 he] at hl
     exact absurd hl (by show ¬ s.fin.s < 0; omega)
   have hc := c.cf
   unfold cfE at hc
   rw [hn] at hc
   rw [if_neg (by decide)] at hc
   split at hc
   ·cases hc
   rename_i h2
   split at hc
   ·cases hc
   rename_i h3
   have hh : ltHo d.f = true := by simpa using h2
   have hv : lfV (hrV d.f) d.fb 3 d.l.t = true := by simpa using h3
   refine ⟨?_, ?_, ?_⟩
   ·unfold ltHo u_hoB at hh
    simp only [Bool.and_eq_true] at hh
    exact if_pos hh.1.1.1
   ·unfold fzB at hz
    simp only [Bool.and_eq_true] at hz
    have := hz.1
    unfold twB at this
    simpa using this
   ·unfold lfV at hv
    simp only [Bool.and_eq_true] at hv
    exact hv.2
  ·rw [if_neg hl] at hf
   exact absurd rfl hf
 ·rw [e] at hf
  exact absurd rfl hf
theorem lightsigned_yes (s : StD) (d : UpD) (now : Nat) (hs0 : s.ok) (hd : d.ok) (zs : szT s) (zd : szU d) (p : StP) (q : UpP) (w : World) (hL : Ls w) (hps : stIn w.heap.size w s p) (hp : upIn w.heap.size w d q) (hc : chE s d now = 0) :
  Calls Tryz.prog 5 #[.agg (stV s p).toArray, .agg (upV d q).toArray, .int .u64 (now : Int)] w fun e w' => e = .returned (.bool true) ∧ Below w.heap.size w w' := by
 have KS := fun (W : World) (hB : Below w.heap.size w W) => shown14_any W (hL.s.below hB)
 have K1 := fun (W : World) (hB : Below w.heap.size w W) (hs : w.heap.size ≤ W.heap.size) => apply_any s hs0 zs d hd zd p q now w.heap.size W (hL.below hB) hs (hps.below hB) (hp.below hB)
 rw [hc] at K1
 obtain ⟨fa, fl, f0, fs⟩ := signed_now hc
 have ff := @signed_fin s d now hc
 have sx : szT (apS s d now) := apS_sz zs zd
 have lgX := lgT_sz sx
 have lgS := lgT_sz zs
 have KK := fun (W : World) (hB : Below w.heap.size w W) (hs : w.heap.size ≤ W.heap.size) => rkeys_any (mbC s d) (mbP s d p) d.bits hd.2.2.1 w.heap.size W hs (by
  unfold mbC mbP
  split
  ·exact jan hB hps.2.2.1
  ·exact jan hB hps.2.2.2.1)
 have KT := fun (W : World) => rtext_any d.l d.slot fs hd.2.2.2 W
 have KA := fun (a : Option Addr) (c : Nat) (W : World) (h : txS (rkL (mbC s d).ks d.bits 16) a W) => rall_any (rkL (mbC s d).ks d.bits 16) (Nat.le_trans (rkL_len _ _ _) (by omega)) (txV (hrV d.l) d.slot) d.sig (by unfold txV; rw [jex]; omega) a c W h
 rw [fa] at KA
 have KL := fun (qx : StP) (W : World) (hB : Below w.heap.size w W) (hs : w.heap.size ≤ W.heap.size) (hx : stIn W.heap.size W (apS s d now) qx) => sameLt_any (apS s d now).fin s.fin lgX.1 lgS.1 qx.fin p.fin W.heap.size W (Nat.le_refl _) hx.1 (jbi (jan hB hps.1) hs)
 have KR := fun (W : World) => rhrootL_any d.f W
 have KO := fun (W : World) => lones_any d.bits hd.2.2.1 W
 have KC := fun (W : World) (hB : Below w.heap.size w W) (hs : w.heap.size ≤ W.heap.size) => rcheck_any (hrV d.f) d.fb 3 (by decide) d.l.t q.fb.a q.fb.c w.heap.size W hs (jan hB hp.2.2.2.2)
 have f1 : eqLt (apS s d now).fin s.fin = false → rtE (hdC d.f.s d.f.u d.f.p d.f.t d.f.b) 3 = 0 ∧ 32 ≤ 3 * sgN d.bits ∧ chk (hrV d.f) d.fb 3 d.l.t = true := fun h => ff fun e => by rw [(eqLt_iff _ _).2 e] at h; cases h
 clear ff
 have hle := sgN_le d.bits
 have hcm : decide (d.slot / 64 = s.fin.s / 64) = true ∧ cmV (mbC s d) (mbP s d p) = cmV s.now p.now ∨ decide (d.slot / 64 = s.fin.s / 64) = false ∧ cmV (mbC s d) (mbP s d p) = cmV s.nxt p.nxt := by
  unfold mbC mbP
  by_cases h : d.slot / 64 = s.fin.s / 64
  ·rw [if_pos h, if_pos h]
   exact .inl ⟨decide_eq_true h, rfl⟩
  ·rw [if_neg h, if_neg h]
   exact .inr ⟨decide_eq_false h, rfl⟩
 have b1 : s.fin.s < 18446744073709551616 := hs0.1.1
 have b2 : d.slot < 18446744073709551616 := hd.2.2.2
 have a0 : (stV s p)[0]? = some (.int .u64 (s.fin.s : Int)) := rfl
 have aF := jek s p
 have aN := stV_now s p
 have aX := jfk s p
 have uL := upV_h d q
 have uF := upV_fh d q
 have u3 : (upV d q)[3]? = some (.string d.l.t) := rfl
 have u21 : (upV d q)[21]? = some (.slice q.fb.a d.fb.length q.fb.c) := rfl
 have u22 : (upV d q)[22]? = some (.int .u64 (d.bits : Int)) := rfl
 have u23 : (upV d q)[23]? = some (.string d.sig) := rfl
 have u24 : (upV d q)[24]? = some (.int .u64 (d.slot : Int)) := rfl
 have HLn : Hid ((stV s p).length = 51 ∧ (upV d q).length = 25 ∧ (ltV s.fin p.fin).length = 9 ∧ (cmV s.now p.now).length = 2 ∧ (cmV s.nxt p.nxt).length = 2 ∧ (hdV d.l).length = 5 ∧ (hdV d.f).length = 5) := show _ from ⟨rfl, rfl, rfl, rfl, rfl, rfl, rfl⟩
 have HOn : Hid ((cmV s.now p.now).toArray.all (·.oneCell') = true ∧ (cmV s.nxt p.nxt).toArray.all (·.oneCell') = true) := ⟨jba (jcc _ _), jba (jcc _ _)⟩
 obtain ⟨bs, hbs⟩ : ∃ x, eqLt (apS s d now).fin s.fin = x := ⟨_, rfl⟩
 rw [hbs] at KL f1
 obtain ⟨X, hX⟩ : ∃ x, apS s d now = x := ⟨_, rfl⟩
 rw [hX] at K1 KL
 obtain ⟨LR, hLR⟩ : ∃ x, rkL (mbC s d).ks d.bits 16 = x := ⟨_, rfl⟩
 rw [hLR] at KK KA fl
 obtain ⟨TX, hTX⟩ : ∃ x, txV (hrV d.l) d.slot = x := ⟨_, rfl⟩
 rw [hTX] at KT KA
 obtain ⟨SG, hSG⟩ : ∃ x, d.sig = x := ⟨_, rfl⟩
 rw [hSG] at KA u23
 obtain ⟨RT, hRT⟩ : ∃ x, hrV d.f = x := ⟨_, rfl⟩
 rw [hRT] at KR KC f1
 obtain ⟨RE, hRE⟩ : ∃ x, rtE (hdC d.f.s d.f.u d.f.p d.f.t d.f.b) 3 = x := ⟨_, rfl⟩
 rw [hRE] at KR f1
 obtain ⟨ST, hST⟩ : ∃ x, d.l.t = x := ⟨_, rfl⟩
 rw [hST] at KC f1 u3
 obtain ⟨CK, hCK⟩ : ∃ x, chk RT d.fb 3 ST = x := ⟨_, rfl⟩
 rw [hCK] at KC f1
 obtain ⟨NB, hNB⟩ : ∃ x, d.fb.length = x := ⟨_, rfl⟩
 rw [hNB] at KC u21
 obtain ⟨LC, hLC⟩ : ∃ L, cmV (mbC s d) (mbP s d p) = L := ⟨_, rfl⟩
 rw [hLC] at KK hcm
 obtain ⟨SN, hSN⟩ : ∃ n, sgN d.bits = n := ⟨_, rfl⟩
 rw [hSN] at KO f1 fl f0 hle
 obtain ⟨BT, hBT⟩ : ∃ n, d.bits = n := ⟨_, rfl⟩
 rw [hBT] at KK KO u22
 obtain ⟨sl, hsl⟩ : ∃ n, d.slot = n := ⟨_, rfl⟩
 rw [hsl] at KT u24 hcm b2
 obtain ⟨ss, hss⟩ : ∃ n, s.fin.s = n := ⟨_, rfl⟩
 rw [hss] at hcm a0 b1
 obtain ⟨sq, hsq⟩ : ∃ n, ss / 64 = n := ⟨_, rfl⟩
 obtain ⟨dq, hdq⟩ : ∃ n, sl / 64 = n := ⟨_, rfl⟩
 rw [hsq, hdq] at hcm
 have w1 : IntKind.u64.wrap ((sl : Int) / 64) = (dq : Int) := by rw [IntKind.wrap_u64]; omega
 have w2 : IntKind.u64.wrap ((ss : Int) / 64) = (sq : Int) := by rw [IntKind.wrap_u64]; omega
 obtain ⟨LS, hLS⟩ : ∃ L, stV s p = L := ⟨_, rfl⟩
 obtain ⟨LU, hLU⟩ : ∃ L, upV d q = L := ⟨_, rfl⟩
 obtain ⟨XF, hXF⟩ : ∃ L, ltV s.fin p.fin = L := ⟨_, rfl⟩
 obtain ⟨XA, hXA⟩ : ∃ L, cmV s.now p.now = L := ⟨_, rfl⟩
 obtain ⟨XB, hXB⟩ : ∃ L, cmV s.nxt p.nxt = L := ⟨_, rfl⟩
 obtain ⟨HDL, hHL⟩ : ∃ L, hdV d.l = L := ⟨_, rfl⟩
 obtain ⟨HDF, hHF⟩ : ∃ L, hdV d.f = L := ⟨_, rfl⟩
 rw [hLS] at K1 a0 aF aN aX HLn ⊢
 rw [hLU] at K1 uL uF u3 u21 u22 u23 u24 HLn ⊢
 rw [hXF] at KL aF HLn
 rw [hXA] at aN HLn HOn hcm
 rw [hXB] at aX HLn HOn hcm
 rw [hHL] at KT uL HLn
 rw [hHF] at KR uF HLn
 have HF : Hid (_ ∧ _ ∧ _ ∧ _ ∧ _) := ⟨f1, fl, f0, hcm, hle⟩
 clear f1 fl f0 fs hcm hle fa hbs hX hLR hTX hSG hRT hRE hST hCK hNB hLC hSN hBT hsl hss hsq hdq hLS hLU hXF hXA hXB hHL hHF sx lgX lgS hL hps hp hs0 hd zs zd b1 b2 hc
 obtain ⟨B1, xS, xU, hs⟩ := box2 w (.cells LS.toArray 38) (.cells LU.toArray 33)
 obtain ⟨z, hz⟩ : ∃ z, w.heap.size = z := ⟨_, rfl⟩
 have HZ : Hid (w.heap.size = z) := hz
 rw [hz] at B1 xS xU hs KS K1 KL KK KC
 go_enter Tryz.func5, Tryz.ntmps5
 go_wp2_with fail
 refine (KS _ B1).mono ?_
 rintro e V1 ⟨rfl, C⟩
 have x1 : Bq z 38 LS.toArray V1 := (C.block z (by omega)).trans xS
 have y1 : Bq (z + 1) 33 LU.toArray V1 := (C.block (z + 1) (by omega)).trans xU
 have BV1 := jaa B1 (by omega) C
 have s1 : z + 2 ≤ V1.heap.size := by have := C.size; omega
 clear C KS xS xU hs B1 hz
 have RS := jal x1
 have RU := jal y1
 go_wp2_with (first | (refine wpList_load_mid rfl 38 _ rfl z 0 rfl _ _ RS Tryz.underlying38 rfl (by rw [HLn.out.1]; kernel_rfl) ?_) | (refine jab (by rfl) 38 _ rfl z 0 rfl _ _ RS Tryz.underlying38 rfl (by rw [HLn.out.1]; kernel_rfl) ?_) | (refine wpList_load_mid rfl 33 _ rfl (z + 1) 0 rfl _ _ RU Tryz.underlying33 rfl (by rw [HLn.out.2.1]; kernel_rfl) ?_) | (refine jab (by rfl) 33 _ rfl (z + 1) 0 rfl _ _ RU Tryz.underlying33 rfl (by rw [HLn.out.2.1]; kernel_rfl) ?_))
 refine (K1 _ BV1 (by omega)).mono ?_
 rintro e V2 ⟨⟨qx, rfl, gx⟩, C⟩
 have x2 := x1.below C
 have y2 := y1.below C
 have BV2 := jaa BV1 (by omega) C
 have s2 : z + 2 ≤ V2.heap.size := by have := C.size; omega
 clear C K1 RS RU x1 y1 BV1 s1
 have hQ : Hid ((stV X qx).toArray.size = 51) := show _ from rfl
 have hO : Hid ((stV X qx).toArray.all (·.oneCell') = true) := show _ from jba (jbz _ _)
 have c0 := jek X qx
 have HLx : Hid ((ltV X.fin qx.fin).length = 9) := show _ from rfl
 have KL := KL qx
 obtain ⟨LX, hLX⟩ : ∃ L, stV X qx = L := ⟨_, rfl⟩
 obtain ⟨CA, hCA⟩ : ∃ L, ltV X.fin qx.fin = L := ⟨_, rfl⟩
 rw [hLX] at hQ hO c0
 rw [hCA] at KL c0 HLx
 rw [hLX]
 clear hLX hCA
 obtain ⟨BA, nA, hsA⟩ := box1 V2 (.cells zSA 38)
 have HV : Hid (_ ∧ _ ∧ _ ∧ _ ∧ _ ∧ _ ∧ _) := ⟨BA, hsA, x2, y2, s2, BV2, gx⟩
 clear BA hsA x2 y2 s2 BV2 gx
 go_wp2_with (first | (refine jao rfl rfl 38 _ _ rfl V2.heap.size _ rfl rfl 38 _ nA (by rw [hQ.out]; kernel_rfl) (by rw [hQ.out]; rfl) hO.out ?_; refine Stp.out ?_))
 refine ⟨?_⟩
 obtain ⟨BA, hsA, x2, y2, s2, BV2, gx⟩ := HV.out
 have v3 := Bq.row (show Bq V2.heap.size 38 _ _ from nA) LX.toArray
 have C := jas BA (Nat.le_refl _) LX.toArray
 have x3 := x2.below C
 have y3 := y2.below C
 have BV3 := jaa BV2 (by omega) C
 have g3 := gx.below C
 have s3 : V2.heap.size + 1 ≤ ((V2.alloc (.cells zSA 38)).setRow V2.heap.size LX.toArray).heap.size := by rw [size_setRow, hsA]; exact Nat.le_refl _
 obtain ⟨V3, hV3⟩ : ∃ V, (V2.alloc (.cells zSA 38)).setRow V2.heap.size LX.toArray = V := ⟨_, rfl⟩
 rw [hV3] at v3 x3 y3 BV3 g3 s3 ⊢
 obtain ⟨y, hy⟩ : ∃ y, V2.heap.size = y := ⟨_, rfl⟩
 rw [hy] at v3 g3 s3 s2 ⊢
 have hyz : Hid (z + 2 ≤ y) := s2
 clear hV3 hy BA hsA nA HV x2 y2 s2 BV2 gx C
 have RX := jac x3 20 XB aX
 obtain ⟨BA, nA, hsA⟩ := box1 V3 (.cells #[.slice none 0 0, .string ⟨#[]⟩] 31)
 have HV : Hid (_ ∧ _ ∧ _ ∧ _ ∧ _ ∧ _ ∧ _ ∧ _) := ⟨BA, hsA, x3, y3, v3, s3, BV3, g3⟩
 clear BA hsA y3 v3 s3 BV3 g3
 go_wp2_with (first | (refine wpList_load_mid rfl 31 _ rfl z 20 rfl _ _ RX Tryz.underlying31 rfl (by rw [HLn.out.2.2.2.2.1]; kernel_rfl) ?_) | (refine jab (by rfl) 31 _ rfl z 20 rfl _ _ RX Tryz.underlying31 rfl (by rw [HLn.out.2.2.2.2.1]; kernel_rfl) ?_) | (refine jao rfl rfl 31 _ _ rfl V3.heap.size _ rfl rfl 31 _ nA (by rw [show XB.toArray.size = 2 from HLn.out.2.2.2.2.1]; kernel_rfl) (by rw [show XB.toArray.size = 2 from HLn.out.2.2.2.2.1]; rfl) HOn.out.2 ?_; refine Stp.out ?_))
 refine ⟨?_⟩
 obtain ⟨BA, hsA, x3, y3, v3, s3, BV3, g3⟩ := HV.out
 have c4 := Bq.row (show Bq V3.heap.size 31 _ _ from nA) XB.toArray
 have C := jas BA (Nat.le_refl _) XB.toArray
 have x4 := x3.below C
 have y4 := y3.below C
 have v4 := v3.below C
 have BV4 := jaa BV3 (by have := hyz.out; omega) C
 have g4 := g3.below (C.mono (by omega))
 have t4 : V3.heap.size + 1 ≤ ((V3.alloc (.cells #[.slice none 0 0, .string ⟨#[]⟩] 31)).setRow V3.heap.size XB.toArray).heap.size := by rw [size_setRow, hsA]; exact Nat.le_refl _
 have s4 : y + 1 ≤ ((V3.alloc (.cells #[.slice none 0 0, .string ⟨#[]⟩] 31)).setRow V3.heap.size XB.toArray).heap.size := Nat.le_trans s3 (Nat.le_trans (Nat.le_succ _) t4)
 obtain ⟨V4, hV4⟩ : ∃ V, (V3.alloc (.cells #[.slice none 0 0, .string ⟨#[]⟩] 31)).setRow V3.heap.size XB.toArray = V := ⟨_, rfl⟩
 rw [hV4] at c4 x4 y4 v4 BV4 g4 t4 s4 ⊢
 obtain ⟨yc, hyc⟩ : ∃ y, V3.heap.size = y := ⟨_, rfl⟩
 rw [hyc] at c4 t4 s3 ⊢
 have hyy : Hid (y + 1 ≤ yc) := s3
 clear hV4 hyc BA hsA nA HV x3 y3 v3 BV3 g3 s3 C RX
 have p24 : V4.cell? ⟨z + 1, 24, none⟩ = some (.int .u64 (sl : Int)) := jaf y4 24 _ u24
 have p0 : V4.cell? ⟨z, 0, none⟩ = some (.int .u64 (ss : Int)) := jaf x4 0 _ a0
 rcases HF.out.2.2.2.1 with ⟨hd, rfl⟩ | ⟨hd, rfl⟩
 ·have heq : dq = sq := of_decide_eq_true hd
  subst heq
  have RX := jac x4 18 LC aN
  have HV : Hid (_ ∧ _ ∧ _ ∧ _ ∧ _ ∧ _ ∧ _ ∧ _) := ⟨c4, x4, y4, v4, s4, BV4, g4, t4⟩
  clear y4 v4 s4 BV4 g4 t4
  go_wp2_with (first | (refine wpList_load_mid rfl 31 _ rfl z 18 rfl _ _ RX Tryz.underlying31 rfl (by rw [HLn.out.2.2.2.1]; kernel_rfl) ?_) | (refine jab (by rfl) 31 _ rfl z 18 rfl _ _ RX Tryz.underlying31 rfl (by rw [HLn.out.2.2.2.1]; kernel_rfl) ?_) | (refine jao rfl rfl 31 _ _ rfl yc _ rfl rfl 31 _ c4 (by rw [show LC.toArray.size = 2 from HLn.out.2.2.2.1]; kernel_rfl) (by rw [show LC.toArray.size = 2 from HLn.out.2.2.2.1]; exact HLn.out.2.2.2.2.1) HOn.out.1 ?_; refine Stp.out ?_))
  refine ⟨?_⟩
  obtain ⟨c4, x4, y4, v4, s4, BV4, g4, t4⟩ := HV.out
  have c5 := Bq.row (show Bq yc 31 _ _ from c4) LC.toArray
  have x5 := x4.rowOther (show z ≠ yc by have := hyy.out; have := hyz.out; omega) LC.toArray
  have y5 := y4.rowOther (show z + 1 ≠ yc by have := hyy.out; have := hyz.out; omega) LC.toArray
  have v5 := v4.rowOther (show y ≠ yc by have := hyy.out; omega) LC.toArray
  have BV5 := jas BV4 (show z ≤ yc by have := hyy.out; have := hyz.out; omega) LC.toArray
  have g5 := g4.below (jas (Below.refl _ V4) (show y ≤ yc by have := hyy.out; omega) LC.toArray)
  have s5 : y + 1 ≤ (V4.setRow yc LC.toArray).heap.size := by rw [size_setRow]; exact s4
  have t5 : yc + 1 ≤ (V4.setRow yc LC.toArray).heap.size := by rw [size_setRow]; exact t4
  obtain ⟨V5, hV5⟩ : ∃ V, V4.setRow yc LC.toArray = V := ⟨_, rfl⟩
  rw [hV5] at c5 x5 y5 v5 BV5 g5 s5 t5 ⊢
  clear hV5 HV c4 x4 y4 v4 s4 BV4 g4 t4 RX p24 p0 hd
  have R1 := c5
  have u22c : V5.cell? ⟨z + 1, 22, none⟩ = some (.int .u64 (BT : Int)) := jaf y5 22 _ u22
  go_wp2_with (first | (refine wpList_load_row rfl 31 _ rfl yc rfl _ _ _ _ R1 Tryz.underlying31 rfl (by rw [List.size_toArray, HLn.out.2.2.2.1]; kernel_rfl) ?_) | (refine jab (by rfl) 31 _ rfl yc 0 rfl _ _ (jal R1) Tryz.underlying31 rfl (by rw [HLn.out.2.2.2.1]; kernel_rfl) ?_))
  refine (KK _ BV5 (by have := hyz.out; omega)).mono ?_
  rintro e V6 ⟨⟨ka, kc, rfl, tx6⟩, C⟩
  clear R1 u22c KK
  have x6 := x5.below C
  have y6 := y5.below C
  have v6 := v5.below C
  have c6 := c5.below C
  have g6 := g5.below (C.mono (by omega))
  have BV6 := jaa BV5 (by have := hyz.out; omega) C
  have s6 : y + 1 ≤ V6.heap.size := by have := C.size; omega
  have t6 : yc + 1 ≤ V6.heap.size := by have := C.size; omega
  clear C x5 y5 v5 c5 g5 BV5 s5 t5
  have R1 := jbl (jac y6 0 HDL uL) (show z + 1 < V6.heap.size by have := hyz.out; omega)
  have u24c : V6.cell? ⟨z + 1, 24, none⟩ = some (.int .u64 (sl : Int)) := jaf y6 24 _ u24
  have u23c : V6.cell? ⟨z + 1, 23, none⟩ = some (.string SG) := jaf y6 23 _ u23
  have hz1 : z + 1 < V6.heap.size := by have := hyz.out; omega
  have kt := jae (w := V6) KT
  have ka := fun d os => Calls.regrown_of (KA ka kc _ (tx6.below (below_regrown V6 d os)))
  go_wp2_with fail
  refine wp_region_quiet_below (by kernel_rfl) (by kernel_rfl) ?_
  refine Stp.out ?_
  iterate 3 (refine jag (fun K hK => ?_); go_simp; refine hK _ ?_; clear hK K)
  refine jak (by kernel_rfl) 24 _ rfl _ _ rfl _ _ R1 Tryz.underlying24 rfl (by rw [HLn.out.2.2.2.2.2.1]; kernel_rfl) ?_
  iterate 1 (refine jag (fun K hK => ?_); go_simp; refine hK _ ?_; clear hK K)
  refine jag (fun K hK => ?_)
  go_simp
  apply Exists.intro
  refine ⟨fun r => ?_, hK _ ?_⟩
  ·have cW := ((below_regrown V6 r.d r.os).cell hz1).trans u24c
   rw [cW]
   exact ⟨rfl, rfl⟩
  clear hK K
  refine jag (fun K hK => ?_)
  go_simp
  apply Exists.intro
  refine ⟨fun _ => ?_, hK _ ?_⟩
  exact kt _ _
  clear hK K
  iterate 1 (refine jag (fun K hK => ?_); go_simp; refine hK _ ?_; clear hK K)
  refine jag (fun K hK => ?_)
  go_simp
  apply Exists.intro
  refine ⟨fun r => ?_, hK _ ?_⟩
  ·have cW := ((below_regrown V6 r.d r.os).cell hz1).trans u23c
   rw [cW]
   exact ⟨rfl, rfl⟩
  clear hK K
  refine jag (fun K hK => ?_)
  go_simp
  apply Exists.intro
  refine ⟨fun _ => ?_, hK _ ?_⟩
  exact ka _ _
  clear hK K
  iterate 1 (refine jag (fun K hK => ?_); go_simp; refine hK _ ?_; clear hK K)
  refine ⟨wpQuiet_nil ?_⟩
  intro V8 hV8
  have C : Below V6.heap.size V6 V8 := by
   obtain ⟨p, rfl⟩ := hV8
   exact below_regrown _ _ _
  clear hV8
  clear R1 u24c u23c hz1 kt ka KT KA tx6
  have x8 := x6.below C
  have y8 := y6.below C
  have v8 := v6.below C
  have c8 := c6.below C
  have g8 := g6.below (C.mono (by omega))
  have BV8 := jaa BV6 (by have := hyz.out; omega) C
  have s8 : y + 1 ≤ V8.heap.size := by have := C.size; omega
  have t8 : yc + 1 ≤ V8.heap.size := by have := C.size; omega
  clear C x6 y6 v6 c6 g6 BV6 s6 t6
  have R1 := jac v8 0 CA c0
  have R2 := jac x8 0 XF aF
  go_wp2_with (first | (refine wpList_load_mid rfl 29 _ rfl y 0 rfl _ _ R1 Tryz.underlying29 rfl (by rw [HLx.out]; kernel_rfl) ?_) | (refine jab (by rfl) 29 _ rfl y 0 rfl _ _ R1 Tryz.underlying29 rfl (by rw [HLx.out]; kernel_rfl) ?_) | (refine wpList_load_mid rfl 29 _ rfl z 0 rfl _ _ R2 Tryz.underlying29 rfl (by rw [HLn.out.2.2.1]; kernel_rfl) ?_) | (refine jab (by rfl) 29 _ rfl z 0 rfl _ _ R2 Tryz.underlying29 rfl (by rw [HLn.out.2.2.1]; kernel_rfl) ?_))
  refine (KL _ BV8 (by have := hyz.out; omega) (g8.up (by omega))).mono ?_
  rintro e V9 ⟨rfl, C⟩
  clear R1 R2 KL
  have x9 := x8.below C
  have y9 := y8.below C
  have v9 := v8.below C
  have c9 := c8.below C
  have g9 := g8.below (C.mono (by omega))
  have BV9 := jaa BV8 (by have := hyz.out; omega) C
  have s9 : y + 1 ≤ V9.heap.size := by have := C.size; omega
  have t9 : yc + 1 ≤ V9.heap.size := by have := C.size; omega
  clear C x8 y8 v8 c8 g8 BV8 s8 t8
  have lz : ¬ (LR.length : Int) = 0 := by have h1 := HF.out.2.1; have h2 := HF.out.2.2.1; omega
  have lzb : ((LR.length : Int) == 0) = false := by rw [beq_eq_false_iff_ne]; exact lz
  cases bs with
  | true =>
   have HB : Hid _ := BV9
   clear x9 y9 v9 c9 g9 BV9 s9 t9
   go_wp2
   go_ret
   rw [HZ.out]
   exact ⟨rfl, HB.out⟩
  | false =>
   obtain ⟨rfl, h32, rfl⟩ := HF.out.1 rfl
   have R1 := jac y9 12 HDF uF
   go_wp2_with (first | (refine wpList_load_mid rfl 24 _ rfl (z + 1) 12 rfl _ _ R1 Tryz.underlying24 rfl (by rw [HLn.out.2.2.2.2.2.2]; kernel_rfl) ?_) | (refine jab (by rfl) 24 _ rfl (z + 1) 12 rfl _ _ R1 Tryz.underlying24 rfl (by rw [HLn.out.2.2.2.2.2.2]; kernel_rfl) ?_))
   refine (KR _).mono ?_
   rintro e V10 ⟨rfl, C⟩
   clear R1 KR
   have x10 := x9.below C
   have y10 := y9.below C
   have v10 := v9.below C
   have c10 := c9.below C
   have g10 := g9.below (C.mono (by omega))
   have BV10 := jaa BV9 (by have := hyz.out; omega) C
   have s10 : y + 1 ≤ V10.heap.size := by have := C.size; omega
   have t10 : yc + 1 ≤ V10.heap.size := by have := C.size; omega
   clear C x9 y9 v9 c9 g9 BV9 s9 t9
   have u22c : V10.cell? ⟨z + 1, 22, none⟩ = some (.int .u64 (BT : Int)) := jaf y10 22 _ u22
   go_wp2_with fail
   refine (KO _).mono ?_
   rintro e V11 ⟨rfl, C⟩
   clear u22c KO
   have x11 := x10.below C
   have y11 := y10.below C
   have v11 := v10.below C
   have c11 := c10.below C
   have g11 := g10.below (C.mono (by omega))
   have BV11 := jaa BV10 (by have := hyz.out; omega) C
   have s11 : y + 1 ≤ V11.heap.size := by have := C.size; omega
   have t11 : yc + 1 ≤ V11.heap.size := by have := C.size; omega
   clear C x10 y10 v10 c10 g10 BV10 s10 t10
   have w3 : IntKind.i64.wrap (3 * (SN : Int)) = ((3 * SN : Nat) : Int) := by have := HF.out.2.2.2.2; rw [IntKind.wrap_i64]; omega
   have l3 : (32 : Int) ≤ ((3 * SN : Nat) : Int) := by omega
   have u21c : V11.cell? ⟨z + 1, 21, none⟩ = some (.slice q.fb.a NB q.fb.c) := jaf y11 21 _ u21
   have u3c : V11.cell? ⟨z + 1, 3, none⟩ = some (.string ST) := jaf y11 3 _ u3
   go_wp2_with fail
   refine (KC _ BV11 (by have := hyz.out; omega)).mono ?_
   rintro e V12 ⟨rfl, C⟩
   have HB : Hid _ := jaa BV11 (by have := hyz.out; omega) C
   clear C KC x11 y11 v11 c11 g11 BV11 s11 t11 u21c u3c
   go_wp2
   go_ret
   rw [HZ.out]
   exact ⟨rfl, HB.out⟩
 ·have hne : ¬ (dq : Int) = sq := by have := of_decide_eq_false hd; omega
  have hnb : ((dq : Int) == (sq : Int)) = false := by rw [beq_eq_false_iff_ne]; exact hne
  have x5 := x4
  have y5 := y4
  have v5 := v4
  have c5 := c4
  have BV5 := BV4
  have g5 := g4
  have s5 := s4
  have t5 := t4
  clear x4 y4 v4 c4 BV4 g4 s4 t4
  clear hd
  have R1 := c5
  have u22c : V4.cell? ⟨z + 1, 22, none⟩ = some (.int .u64 (BT : Int)) := jaf y5 22 _ u22
  go_wp2_with (first | (refine wpList_load_row rfl 31 _ rfl yc rfl _ _ _ _ R1 Tryz.underlying31 rfl (by rw [List.size_toArray, HLn.out.2.2.2.2.1]; kernel_rfl) ?_) | (refine jab (by rfl) 31 _ rfl yc 0 rfl _ _ (jal R1) Tryz.underlying31 rfl (by rw [HLn.out.2.2.2.2.1]; kernel_rfl) ?_))
  refine (KK _ BV5 (by have := hyz.out; omega)).mono ?_
  rintro e V6 ⟨⟨ka, kc, rfl, tx6⟩, C⟩
  clear R1 u22c KK
  have x6 := x5.below C
  have y6 := y5.below C
  have v6 := v5.below C
  have c6 := c5.below C
  have g6 := g5.below (C.mono (by omega))
  have BV6 := jaa BV5 (by have := hyz.out; omega) C
  have s6 : y + 1 ≤ V6.heap.size := by have := C.size; omega
  have t6 : yc + 1 ≤ V6.heap.size := by have := C.size; omega
  clear C x5 y5 v5 c5 g5 BV5 s5 t5
  have R1 := jbl (jac y6 0 HDL uL) (show z + 1 < V6.heap.size by have := hyz.out; omega)
  have u24c : V6.cell? ⟨z + 1, 24, none⟩ = some (.int .u64 (sl : Int)) := jaf y6 24 _ u24
  have u23c : V6.cell? ⟨z + 1, 23, none⟩ = some (.string SG) := jaf y6 23 _ u23
  have hz1 : z + 1 < V6.heap.size := by have := hyz.out; omega
  have kt := jae (w := V6) KT
  have ka := fun d os => Calls.regrown_of (KA ka kc _ (tx6.below (below_regrown V6 d os)))
  go_wp2_with fail
  refine wp_region_quiet_below (by kernel_rfl) (by kernel_rfl) ?_
  refine Stp.out ?_
  iterate 3 (refine jag (fun K hK => ?_); go_simp; refine hK _ ?_; clear hK K)
  refine jak (by kernel_rfl) 24 _ rfl _ _ rfl _ _ R1 Tryz.underlying24 rfl (by rw [HLn.out.2.2.2.2.2.1]; kernel_rfl) ?_
  iterate 1 (refine jag (fun K hK => ?_); go_simp; refine hK _ ?_; clear hK K)
  refine jag (fun K hK => ?_)
  go_simp
  apply Exists.intro
  refine ⟨fun r => ?_, hK _ ?_⟩
  ·have cW := ((below_regrown V6 r.d r.os).cell hz1).trans u24c
   rw [cW]
   exact ⟨rfl, rfl⟩
  clear hK K
  refine jag (fun K hK => ?_)
  go_simp
  apply Exists.intro
  refine ⟨fun _ => ?_, hK _ ?_⟩
  exact kt _ _
  clear hK K
  iterate 1 (refine jag (fun K hK => ?_); go_simp; refine hK _ ?_; clear hK K)
  refine jag (fun K hK => ?_)
  go_simp
  apply Exists.intro
  refine ⟨fun r => ?_, hK _ ?_⟩
  ·have cW := ((below_regrown V6 r.d r.os).cell hz1).trans u23c
   rw [cW]
   exact ⟨rfl, rfl⟩
  clear hK K
  refine jag (fun K hK => ?_)
  go_simp
  apply Exists.intro
  refine ⟨fun _ => ?_, hK _ ?_⟩
  exact ka _ _
  clear hK K
  iterate 1 (refine jag (fun K hK => ?_); go_simp; refine hK _ ?_; clear hK K)
  refine ⟨wpQuiet_nil ?_⟩
  intro V8 hV8
  have C : Below V6.heap.size V6 V8 := by
   obtain ⟨p, rfl⟩ := hV8
   exact below_regrown _ _ _
  clear hV8
  clear R1 u24c u23c hz1 kt ka KT KA tx6
  have x8 := x6.below C
  have y8 := y6.below C
  have v8 := v6.below C
  have c8 := c6.below C
  have g8 := g6.below (C.mono (by omega))
  have BV8 := jaa BV6 (by have := hyz.out; omega) C
  have s8 : y + 1 ≤ V8.heap.size := by have := C.size; omega
  have t8 : yc + 1 ≤ V8.heap.size := by have := C.size; omega
  clear C x6 y6 v6 c6 g6 BV6 s6 t6
  have R1 := jac v8 0 CA c0
  have R2 := jac x8 0 XF aF
  go_wp2_with (first | (refine wpList_load_mid rfl 29 _ rfl y 0 rfl _ _ R1 Tryz.underlying29 rfl (by rw [HLx.out]; kernel_rfl) ?_) | (refine jab (by rfl) 29 _ rfl y 0 rfl _ _ R1 Tryz.underlying29 rfl (by rw [HLx.out]; kernel_rfl) ?_) | (refine wpList_load_mid rfl 29 _ rfl z 0 rfl _ _ R2 Tryz.underlying29 rfl (by rw [HLn.out.2.2.1]; kernel_rfl) ?_) | (refine jab (by rfl) 29 _ rfl z 0 rfl _ _ R2 Tryz.underlying29 rfl (by rw [HLn.out.2.2.1]; kernel_rfl) ?_))
  refine (KL _ BV8 (by have := hyz.out; omega) (g8.up (by omega))).mono ?_
  rintro e V9 ⟨rfl, C⟩
  clear R1 R2 KL
  have x9 := x8.below C
  have y9 := y8.below C
  have v9 := v8.below C
  have c9 := c8.below C
  have g9 := g8.below (C.mono (by omega))
  have BV9 := jaa BV8 (by have := hyz.out; omega) C
  have s9 : y + 1 ≤ V9.heap.size := by have := C.size; omega
  have t9 : yc + 1 ≤ V9.heap.size := by have := C.size; omega
  clear C x8 y8 v8 c8 g8 BV8 s8 t8
  have lz : ¬ (LR.length : Int) = 0 := by have h1 := HF.out.2.1; have h2 := HF.out.2.2.1; omega
  have lzb : ((LR.length : Int) == 0) = false := by rw [beq_eq_false_iff_ne]; exact lz
  cases bs with
  | true =>
   have HB : Hid _ := BV9
   clear x9 y9 v9 c9 g9 BV9 s9 t9
   go_wp2
   go_ret
   rw [HZ.out]
   exact ⟨rfl, HB.out⟩
  | false =>
   obtain ⟨rfl, h32, rfl⟩ := HF.out.1 rfl
   have R1 := jac y9 12 HDF uF
   go_wp2_with (first | (refine wpList_load_mid rfl 24 _ rfl (z + 1) 12 rfl _ _ R1 Tryz.underlying24 rfl (by rw [HLn.out.2.2.2.2.2.2]; kernel_rfl) ?_) | (refine jab (by rfl) 24 _ rfl (z + 1) 12 rfl _ _ R1 Tryz.underlying24 rfl (by rw [HLn.out.2.2.2.2.2.2]; kernel_rfl) ?_))
   refine (KR _).mono ?_
   rintro e V10 ⟨rfl, C⟩
   clear R1 KR
   have x10 := x9.below C
   have y10 := y9.below C
   have v10 := v9.below C
   have c10 := c9.below C
   have g10 := g9.below (C.mono (by omega))
   have BV10 := jaa BV9 (by have := hyz.out; omega) C
   have s10 : y + 1 ≤ V10.heap.size := by have := C.size; omega
   have t10 : yc + 1 ≤ V10.heap.size := by have := C.size; omega
   clear C x9 y9 v9 c9 g9 BV9 s9 t9
   have u22c : V10.cell? ⟨z + 1, 22, none⟩ = some (.int .u64 (BT : Int)) := jaf y10 22 _ u22
   go_wp2_with fail
   refine (KO _).mono ?_
   rintro e V11 ⟨rfl, C⟩
   clear u22c KO
   have x11 := x10.below C
   have y11 := y10.below C
   have v11 := v10.below C
   have c11 := c10.below C
   have g11 := g10.below (C.mono (by omega))
   have BV11 := jaa BV10 (by have := hyz.out; omega) C
   have s11 : y + 1 ≤ V11.heap.size := by have := C.size; omega
   have t11 : yc + 1 ≤ V11.heap.size := by have := C.size; omega
   clear C x10 y10 v10 c10 g10 BV10 s10 t10
   have w3 : IntKind.i64.wrap (3 * (SN : Int)) = ((3 * SN : Nat) : Int) := by have := HF.out.2.2.2.2; rw [IntKind.wrap_i64]; omega
   have l3 : (32 : Int) ≤ ((3 * SN : Nat) : Int) := by omega
   have u21c : V11.cell? ⟨z + 1, 21, none⟩ = some (.slice q.fb.a NB q.fb.c) := jaf y11 21 _ u21
   have u3c : V11.cell? ⟨z + 1, 3, none⟩ = some (.string ST) := jaf y11 3 _ u3
   go_wp2_with fail
   refine (KC _ BV11 (by have := hyz.out; omega)).mono ?_
   rintro e V12 ⟨rfl, C⟩
   have HB : Hid _ := jaa BV11 (by have := hyz.out; omega) C
   clear C KC x11 y11 v11 c11 g11 BV11 s11 t11 u21c u3c
   go_wp2
   go_ret
   rw [HZ.out]
   exact ⟨rfl, HB.out⟩
theorem lightsigned_no (s : StD) (d : UpD) (now : Nat) (hs0 : s.ok) (hd : d.ok) (zs : szT s) (zd : szU d) (p : StP) (q : UpP) (w : World) (hL : Ls w) (hps : stIn w.heap.size w s p) (hp : upIn w.heap.size w d q) (hc : ¬ chE s d now = 0) :
  Calls Tryz.prog 5 #[.agg (stV s p).toArray, .agg (upV d q).toArray, .int .u64 (now : Int)] w fun e w' => e = .returned (.bool true) ∧ Below w.heap.size w w' := by
 have KS := fun (W : World) (hB : Below w.heap.size w W) => shown14_any W (hL.s.below hB)
 have K1 := fun (W : World) (hB : Below w.heap.size w W) (hs : w.heap.size ≤ W.heap.size) => apply_any s hs0 zs d hd zd p q now w.heap.size W (hL.below hB) hs (hps.below hB) (hp.below hB)
 have HLn : Hid ((stV s p).length = 51 ∧ (upV d q).length = 25 ∧ True) := show _ from ⟨rfl, rfl, trivial⟩
 obtain ⟨E, hE⟩ : ∃ x, chE s d now = x := ⟨_, rfl⟩
 rw [hE] at K1 hc
 obtain ⟨X, hX⟩ : ∃ x, apS s d now = x := ⟨_, rfl⟩
 rw [hX] at K1
 obtain ⟨LS, hLS⟩ : ∃ L, stV s p = L := ⟨_, rfl⟩
 obtain ⟨LU, hLU⟩ : ∃ L, upV d q = L := ⟨_, rfl⟩
 rw [hLS] at K1 HLn ⊢
 rw [hLU] at K1 HLn ⊢
 clear hE hX hLS hLU hL hps hp hs0 hd zs zd
 obtain ⟨B1, xS, xU, hs⟩ := box2 w (.cells LS.toArray 38) (.cells LU.toArray 33)
 obtain ⟨z, hz⟩ : ∃ z, w.heap.size = z := ⟨_, rfl⟩
 have HZ : Hid (w.heap.size = z) := hz
 rw [hz] at B1 xS xU hs KS K1
 go_enter Tryz.func5, Tryz.ntmps5
 go_wp2_with fail
 refine (KS _ B1).mono ?_
 rintro e V1 ⟨rfl, C⟩
 have x1 : Bq z 38 LS.toArray V1 := (C.block z (by omega)).trans xS
 have y1 : Bq (z + 1) 33 LU.toArray V1 := (C.block (z + 1) (by omega)).trans xU
 have BV1 := jaa B1 (by omega) C
 have s1 : z + 2 ≤ V1.heap.size := by have := C.size; omega
 clear C KS xS xU hs B1 hz
 have RS := jal x1
 have RU := jal y1
 go_wp2_with (first | (refine wpList_load_mid rfl 38 _ rfl z 0 rfl _ _ RS Tryz.underlying38 rfl (by rw [HLn.out.1]; kernel_rfl) ?_) | (refine jab (by rfl) 38 _ rfl z 0 rfl _ _ RS Tryz.underlying38 rfl (by rw [HLn.out.1]; kernel_rfl) ?_) | (refine wpList_load_mid rfl 33 _ rfl (z + 1) 0 rfl _ _ RU Tryz.underlying33 rfl (by rw [HLn.out.2.1]; kernel_rfl) ?_) | (refine jab (by rfl) 33 _ rfl (z + 1) 0 rfl _ _ RU Tryz.underlying33 rfl (by rw [HLn.out.2.1]; kernel_rfl) ?_))
 refine (K1 _ BV1 (by omega)).mono ?_
 rintro e V2 ⟨⟨qx, rfl, gx⟩, C⟩
 have BV2 := jaa BV1 (by omega) C
 have s2 : z + 2 ≤ V2.heap.size := by have := C.size; omega
 clear C K1 RS RU x1 y1 BV1 s1 gx
 have hQ : Hid ((stV X qx).toArray.size = 51) := show _ from rfl
 have hO : Hid ((stV X qx).toArray.all (·.oneCell') = true) := show _ from jba (jbz _ _)
 obtain ⟨LX, hLX⟩ : ∃ L, stV X qx = L := ⟨_, rfl⟩
 rw [hLX] at hQ hO
 rw [hLX]
 clear hLX
 obtain ⟨BA, nA, hsA⟩ := box1 V2 (.cells zSA 38)
 have HV : Hid (_ ∧ _ ∧ _ ∧ _) := ⟨BA, hsA, s2, BV2⟩
 clear BA hsA s2 BV2
 go_wp2_with (first | (refine jao rfl rfl 38 _ _ rfl V2.heap.size _ rfl rfl 38 _ nA (by rw [hQ.out]; kernel_rfl) (by rw [hQ.out]; rfl) hO.out ?_; refine Stp.out ?_))
 refine ⟨?_⟩
 obtain ⟨BA, hsA, s2, BV2⟩ := HV.out
 have C := jas BA (Nat.le_refl _) LX.toArray
 have HB : Hid _ := jaa BV2 (by omega) C
 obtain ⟨V3, hV3⟩ : ∃ V, (V2.alloc (.cells zSA 38)).setRow V2.heap.size LX.toArray = V := ⟨_, rfl⟩
 rw [hV3] at HB ⊢
 clear hV3 BA hsA nA HV s2 BV2 C
 have e1 : (E == 0) = false := by rw [beq_eq_false_iff_ne]; exact hc
 have e2 : (E != 0) = true := by rw [bne, e1]; rfl
 go_wp2
 go_ret
 rw [HZ.out]
 exact ⟨rfl, HB.out⟩
theorem lightsigned_any (s : StD) (d : UpD) (now : Int) (hs0 : s.ok) (hd : d.ok) (zs : szT s) (zd : szU d) (p : StP) (q : UpP) (w : World) (hL : Ls w) (hps : stIn w.heap.size w s p) (hp : upIn w.heap.size w d q) (hnow : 0 ≤ now ∧ now < 18446744073709551616) :
  Calls Tryz.prog 5 #[.agg (stV s p).toArray, .agg (upV d q).toArray, .int .u64 now] w fun e w' => e = .returned (.bool true) ∧ Below w.heap.size w w' := by
 obtain ⟨k, rfl⟩ := Int.eq_ofNat_of_zero_le hnow.1
 by_cases hc : chE s d k = 0
 ·exact lightsigned_yes s d k hs0 hd zs zd p q w hL hps hp hc
 ·exact lightsigned_no s d k hs0 hd zs zd p q w hL hps hp hc
end Go.Proofs.YtoddangedbefgabGreatDoor
