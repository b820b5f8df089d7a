/- Lemmas: What the package's Apply does, whatever the message; what follows of a store behind it: pure. No condition but on sizes that no machine has. The law LightAgrees, walked. No condition but on sizes that no machine has. -/
import Derived.Test.YtoddangedbefgabGreatDoorM1
import Derived.Test.YtoddangedbefgabGreatDoorM10
import Derived.Test.YtoddangedbefgabGreatDoorM11
import Derived.Test.YtoddangedbefgabGreatDoorM12
import Derived.Test.YtoddangedbefgabGreatDoorM13
import Derived.Test.YtoddangedbefgabGreatDoorM14
import Derived.Test.YtoddangedbefgabGreatDoorM15
import Derived.Test.YtoddangedbefgabGreatDoorM16
import Derived.Test.YtoddangedbefgabGreatDoorM17
import Derived.Test.YtoddangedbefgabGreatDoorM18
import Derived.Test.YtoddangedbefgabGreatDoorM19
import Derived.Test.YtoddangedbefgabGreatDoorM2
import Derived.Test.YtoddangedbefgabGreatDoorM20
import Derived.Test.YtoddangedbefgabGreatDoorM21
import Derived.Test.YtoddangedbefgabGreatDoorM22
import Derived.Test.YtoddangedbefgabGreatDoorM23
import Derived.Test.YtoddangedbefgabGreatDoorM24
import Derived.Test.YtoddangedbefgabGreatDoorM25
import Derived.Test.YtoddangedbefgabGreatDoorM26
import Derived.Test.YtoddangedbefgabGreatDoorM27
import Derived.Test.YtoddangedbefgabGreatDoorM28
import Derived.Test.YtoddangedbefgabGreatDoorM29
import Derived.Test.YtoddangedbefgabGreatDoorM3
import Derived.Test.YtoddangedbefgabGreatDoorM30
import Derived.Test.YtoddangedbefgabGreatDoorM31
import Derived.Test.YtoddangedbefgabGreatDoorM32
import Derived.Test.YtoddangedbefgabGreatDoorM33
import Derived.Test.YtoddangedbefgabGreatDoorM34
import Derived.Test.YtoddangedbefgabGreatDoorM35
import Derived.Test.YtoddangedbefgabGreatDoorM36
import Derived.Test.YtoddangedbefgabGreatDoorM37
import Derived.Test.YtoddangedbefgabGreatDoorM38
import Derived.Test.YtoddangedbefgabGreatDoorM39
import Derived.Test.YtoddangedbefgabGreatDoorM4
import Derived.Test.YtoddangedbefgabGreatDoorM5
import Derived.Test.YtoddangedbefgabGreatDoorM6
import Derived.Test.YtoddangedbefgabGreatDoorM7
import Derived.Test.YtoddangedbefgabGreatDoorM8
import Derived.Test.YtoddangedbefgabGreatDoorM9
import Derived.Test.YtoddangedbefgabGreatDoorRows
namespace Go.Proofs.YtoddangedbefgabGreatDoor
open Go.RowKit Go.Shelf Go.Sort

theorem apply_any (s : StD) (hs0 : s.ok) (zs : szT s) (d : UpD) (hd : d.ok) (zd : szU d) (p : StP) (q : UpP) (now : Nat) (n : Nat) (w : World) (hL : Ls w) (hn : n ≤ w.heap.size) (hps : stIn n w s p) (hp : upIn n w d q) :
  Calls Tryz.prog 10 #[.agg (stV s p).toArray, .agg (upV d q).toArray, .int .u64 (now : Int)] w fun x w' => (∃ q', x = .returned (.tuple #[.agg (stV (apS s d now) q').toArray, .int .i64 (chE s d now)]) ∧ stIn w'.heap.size w' (apS s d now) q') ∧ Below w.heap.size w w' := by
 by_cases he : chE s d now = 0
 ·rw [he]
  refine (apply_yes s hs0 zs d hd zd p q now n w hL hn hps hp he).mono ?_
  rintro e w' ⟨⟨q', rfl, g⟩, hb⟩
  exact ⟨⟨q', rfl, g.stIn⟩, hb⟩
 ·have e1 : apS s d now = s := if_pos he
  rw [e1]
  refine (apply_no s hs0 zs d hd zd p q now n w hL hn hps hp he).mono ?_
  rintro e w' ⟨⟨q', rfl, g⟩, hb⟩
  exact ⟨⟨q', rfl, g.stIn⟩, hb⟩
/-! ### What is right has these parts right -/
/-! ### Taking over -/
theorem tk_fin (s : StD) (d : UpD) : (tkS s d).fin = if s.fin.s < d.f.s then d.f else s.fin := by
 show (if tkU s d = true then d.f else s.fin) = _
 unfold tkU
 by_cases h : s.fin.s < d.f.s
 ·rw [if_pos h, if_pos (decide_eq_true h)]
 ·rw [if_neg h, if_neg (by simp [h])]
theorem tk_now (s : StD) (d : UpD) : (tkS s d).now = s.now ∨ (tkS s d).now = s.nxt ∧ d.f.s / 64 = s.fin.s / 64 + 1 := by
 show (if tkB s d = true then s.nxt else s.now) = _ ∨ (if tkB s d = true then s.nxt else s.now) = _ ∧ _
 cases h : tkB s d with
 | false => exact .inl rfl
 | true =>
  unfold tkB at h
  simp only [Bool.and_eq_true, decide_eq_true_eq] at h
  exact .inr ⟨rfl, h.2⟩
theorem apS_cases (s : StD) (d : UpD) (now : Nat) : chE s d now ≠ 0 ∧ apS s d now = s ∨ chE s d now = 0 ∧ fzB (apT s d) d = true ∧ apS s d now = tkS (apT s d) d ∨ chE s d now = 0 ∧ fzB (apT s d) d = false ∧ apS s d now = apT s d := by
 unfold apS
 by_cases h : chE s d now = 0
 ·rw [if_neg (fun g => g h)]
  cases g : fzB (apT s d) d with
  | true => exact .inr (.inl ⟨h, rfl, if_pos rfl⟩)
  | false => exact .inr (.inr ⟨h, rfl, if_neg (by decide)⟩)
 ·rw [if_pos h]
  exact .inl ⟨h, rfl⟩
theorem apS_agrees (s : StD) (d : UpD) (now : Nat) : (apS s d now).now = s.now ∨ (apS s d now).now = s.nxt ∧ s.fin.s / 64 < (apS s d now).fin.s / 64 := by
 rcases apS_cases s d now with ⟨_, e⟩ | ⟨_, _, e⟩ | ⟨_, _, e⟩
 ·rw [e]; exact .inl rfl
 ·rw [e]
  rcases tk_now (apT s d) d with g | ⟨g, g1⟩
  ·exact .inl g
  ·refine .inr ⟨g, ?_⟩
   have hf : (apT s d).fin = s.fin := rfl
   rw [tk_fin, hf]
   rw [hf] at g1
   rw [if_pos (by omega)]
   omega
 ·rw [e]; exact .inl rfl
end Go.Proofs.YtoddangedbefgabGreatDoor
namespace Go.Proofs.YtoddangedbefgabGreatDoor
open Go.RowKit Go.Shelf Go.Sort

set_option maxRecDepth 20000 in
set_option maxHeartbeats 8000000 in
theorem lightagrees_nat (s : StD) (d : UpD) (now : Nat) (hs0 : s.ok) (hd : d.ok) (zs : szT s) (zd : szU d) (p : StP) (q : UpP) (w : World) (hL : Ls w) (hps : stIn w.heap.size w s p) (hp : upIn w.heap.size w d q) :
  Calls Tryz.prog 7 #[.agg (stV s p).toArray, .agg (upV d q).toArray, .int .u64 (now : Int)] w fun e w' => e = .returned (.bool true) ∧ Below w.heap.size w w' := by
 have KS := fun (W : World) (hB : Below w.heap.size w W) => shown14_any W (hL.s.below hB)
 have K1 := fun (W : World) (hB : Below w.heap.size w W) (hs : w.heap.size ≤ W.heap.size) => apply_any s hs0 zs d hd zd p q now w.heap.size W (hL.below hB) hs (hps.below hB) (hp.below hB)
 have sx : szT (apS s d now) := apS_sz zs zd
 have lgX := lgT_sz sx
 have lgS := lgT_sz zs
 have lgU_ := lgU_sz zd
 have Ka := fun (qx : StP) (W : World) (hB : Below w.heap.size w W) (hs : w.heap.size ≤ W.heap.size) (hx : stIn W.heap.size W (apS s d now) qx) => sameCm_any (apS s d now).now s.now lgX.2.2.1 lgS.2.2.1 qx.now p.now W.heap.size W (Nat.le_refl _) hx.2.2.1 (slS_mono (slS_below hB hps.2.2.1) hs)
 have Kb := fun (qx : StP) (W : World) (hB : Below w.heap.size w W) (hs : w.heap.size ≤ W.heap.size) (hx : stIn W.heap.size W (apS s d now) qx) => sameCm_any (apS s d now).now s.nxt lgX.2.2.1 lgS.2.2.2.1 qx.now p.nxt W.heap.size W (Nat.le_refl _) hx.2.2.1 (slS_mono (slS_below hB hps.2.2.2.1) hs)
 have K2 := fun (W : World) (hB : Below w.heap.size w W) (hs : w.heap.size ≤ W.heap.size) => check_any14 s hs0 zs d hd zd p q now w.heap.size W (hL.below hB) hs (hps.below hB) (hp.below hB)
 have g1 : (eqCm (apS s d now).now s.now || eqCm (apS s d now).now s.nxt && decide (s.fin.s / 64 < (apS s d now).fin.s / 64)) = true := by
  rcases apS_agrees s d now with h | ⟨h, h2⟩
  ·rw [(eqCm_iff _ _).2 h]; rfl
  ·rw [(eqCm_iff _ _).2 h, decide_eq_true h2]; exact Bool.or_true _
 have okx : (apS s d now).ok := apS_ok hs0 hd
 have bx : (apS s d now).fin.s < 18446744073709551616 := okx.1.1
 have bs : s.fin.s < 18446744073709551616 := hs0.1.1
 have a0 : (stV s p)[0]? = some (.int .u64 (s.fin.s : Int)) := rfl
 have a2 := stV_now s p
 have a3 := stV_nxt s p
 have HLn : Hid ((stV s p).length = 51 ∧ (upV d q).length = 25 ∧ (cmV s.now p.now).length = 2 ∧ (cmV s.nxt p.nxt).length = 2) := show _ from ⟨rfl, rfl, rfl, rfl⟩
 obtain ⟨E, hE⟩ : ∃ x, chE s d now = x := ⟨_, rfl⟩
 rw [hE] at K1 K2
 obtain ⟨ba, hba⟩ : ∃ x, eqCm (apS s d now).now s.now = x := ⟨_, rfl⟩
 obtain ⟨bb, hbb⟩ : ∃ x, eqCm (apS s d now).now s.nxt = x := ⟨_, rfl⟩
 rw [hba] at Ka g1
 rw [hbb] at Kb g1
 have HXS : Hid (∃ n, (apS s d now).fin.s = n) := show _ from ⟨_, rfl⟩
 obtain ⟨xs, hxs⟩ := HXS.out
 obtain ⟨ss, hss⟩ : ∃ n, s.fin.s = n := ⟨_, rfl⟩
 rw [hxs] at bx g1
 rw [hss] at bs g1 a0
 obtain ⟨X, hX⟩ : ∃ x, apS s d now = x := ⟨_, rfl⟩
 rw [hX] at K1 Ka Kb hxs
 obtain ⟨xq, hxq⟩ : ∃ n, xs / 64 = n := ⟨_, rfl⟩
 obtain ⟨sq, hsq⟩ : ∃ n, ss / 64 = n := ⟨_, rfl⟩
 rw [hxq, hsq] at g1
 have w1 : IntKind.u64.wrap ((xs : Int) / 64) = (xq : Int) := by rw [IntKind.wrap_u64]; omega
 have w2 : IntKind.u64.wrap ((ss : Int) / 64) = (sq : Int) := by rw [IntKind.wrap_u64]; omega
 obtain ⟨bl, hbl⟩ : ∃ b, decide ((sq : Int) < (xq : Int)) = b := ⟨_, rfl⟩
 have hbl2 : decide (sq < xq) = bl := by rw [← hbl]; exact decide_eq_decide.2 (by omega)
 rw [hbl2] at g1
 have HG : Hid _ := g1
 have hb3 : Hid (decide (sq < xq) = bl) := show _ from hbl2
 obtain ⟨LS, hLS⟩ : ∃ L, stV s p = L := ⟨_, rfl⟩
 obtain ⟨LU, hLU⟩ : ∃ L, upV d q = L := ⟨_, rfl⟩
 obtain ⟨XA, hXA⟩ : ∃ L, cmV s.now p.now = L := ⟨_, rfl⟩
 obtain ⟨XB, hXB⟩ : ∃ L, cmV s.nxt p.nxt = L := ⟨_, rfl⟩
 rw [hLS] at K1 K2 a0 a2 a3 HLn ⊢
 rw [hLU] at K1 K2 HLn ⊢
 rw [hXA] at Ka a2 HLn
 rw [hXB] at Kb a3 HLn
 clear hE hba hbb hX hLS hLU hXA hXB HXS hss hxq hsq hbl2 okx sx lgX lgS lgU_ g1 hL hps hp hs0 hd zs zd
 obtain ⟨B1, xS, xU, hs⟩ := box2 w (.cells LS.toArray 38) (.cells LU.toArray 33)
 obtain ⟨z, hz⟩ : ∃ z, w.heap.size = z := ⟨_, rfl⟩
 have HZ : Hid (w.heap.size = z) := hz
 rw [hz] at B1 xS xU hs KS K1 K2 Ka Kb
 go_enter Tryz.func7, Tryz.ntmps7
 go_wp2_with fail
 refine (KS _ B1).mono ?_
 rintro e V1 ⟨rfl, C⟩
 have x1 : Bq z 38 LS.toArray V1 := (C.block z (by omega)).trans xS
 have y1 : Bq (z + 1) 33 LU.toArray V1 := (C.block (z + 1) (by omega)).trans xU
 have BV1 := belowStep B1 (by omega) C
 have s1 : z + 2 ≤ V1.heap.size := by have := C.size; omega
 clear C KS xS xU hs B1 hz
 have RS := range_all x1
 have RU := range_all y1
 go_wp2_with (first | (refine wpList_load_mid rfl 38 _ rfl z 0 rfl _ _ RS Tryz.underlying38 rfl (by rw [HLn.out.1]; kernel_rfl) ?_) | (refine load_mid_wanted (by rfl) 38 _ rfl z 0 rfl _ _ RS Tryz.underlying38 rfl (by rw [HLn.out.1]; kernel_rfl) ?_) | (refine wpList_load_mid rfl 33 _ rfl (z + 1) 0 rfl _ _ RU Tryz.underlying33 rfl (by rw [HLn.out.2.1]; kernel_rfl) ?_) | (refine load_mid_wanted (by rfl) 33 _ rfl (z + 1) 0 rfl _ _ RU Tryz.underlying33 rfl (by rw [HLn.out.2.1]; kernel_rfl) ?_))
 refine (K1 _ BV1 (by omega)).mono ?_
 rintro e V2 ⟨⟨qx, rfl, gx⟩, C⟩
 have x2 := x1.below C
 have y2 := y1.below C
 have BV2 := belowStep BV1 (by omega) C
 have s2 : z + 2 ≤ V2.heap.size := by have := C.size; omega
 clear C K1 RS RU x1 y1 BV1 s1
 have hQ : Hid ((stV X qx).toArray.size = 51) := show _ from rfl
 have hO : Hid ((stV X qx).toArray.all (·.oneCell') = true) := show _ from one_arr (stV_one _ _)
 have c0 : (stV X qx)[0]? = some (.int .u64 (X.fin.s : Int)) := rfl
 rw [hxs] at c0
 have c2 := stV_now X qx
 have HLx : Hid ((cmV X.now qx.now).length = 2) := show _ from rfl
 have Ka := Ka qx
 have Kb := Kb qx
 obtain ⟨LX, hLX⟩ : ∃ L, stV X qx = L := ⟨_, rfl⟩
 obtain ⟨CA, hCA⟩ : ∃ L, cmV X.now qx.now = L := ⟨_, rfl⟩
 rw [hLX] at hQ hO c0 c2
 rw [hCA] at Ka Kb c2 HLx
 rw [hLX]
 clear hLX hCA hxs
 obtain ⟨BA, nA, hsA⟩ := box1 V2 (.cells #[.int .u64 0, .int .u64 0, .string ⟨#[]⟩, .string ⟨#[]⟩, .string ⟨#[]⟩, .string ⟨#[]⟩, .string ⟨#[]⟩, .int .u64 0, .slice none 0 0, .int .u64 0, .int .u64 0, .string ⟨#[]⟩, .string ⟨#[]⟩, .string ⟨#[]⟩, .string ⟨#[]⟩, .string ⟨#[]⟩, .int .u64 0, .slice none 0 0, .slice none 0 0, .string ⟨#[]⟩, .slice none 0 0, .string ⟨#[]⟩, .int .u64 0, .int .u64 0, .string ⟨#[]⟩, .string ⟨#[]⟩, .string ⟨#[]⟩, .string ⟨#[]⟩, .string ⟨#[]⟩, .int .u64 0, .slice none 0 0, .slice none 0 0, .string ⟨#[]⟩, .slice none 0 0, .int .u64 0, .int .u64 0, .string ⟨#[]⟩, .string ⟨#[]⟩, .string ⟨#[]⟩, .string ⟨#[]⟩, .string ⟨#[]⟩, .int .u64 0, .slice none 0 0, .slice none 0 0, .int .u64 0, .string ⟨#[]⟩, .int .u64 0, .bool false, .int .i64 0, .int .i64 0, .bool false] 38)
 have HV : Hid (_ ∧ _ ∧ _ ∧ _ ∧ _ ∧ _ ∧ _) := ⟨BA, hsA, x2, y2, s2, BV2, gx⟩
 clear BA hsA x2 y2 s2 BV2 gx
 go_wp2_with (first | (refine store_row0 rfl rfl 38 _ _ rfl V2.heap.size _ rfl rfl 38 _ nA (by rw [hQ.out]; kernel_rfl) (by rw [hQ.out]; rfl) hO.out ?_; refine Stp.out ?_))
 refine ⟨?_⟩
 obtain ⟨BA, hsA, x2, y2, s2, BV2, gx⟩ := HV.out
 have v3 := Bq.row (show Bq V2.heap.size 38 _ _ from nA) LX.toArray
 have C := below_row BA (Nat.le_refl _) LX.toArray
 have x3 := x2.below C
 have y3 := y2.below C
 have BV3 := belowStep BV2 (by omega) C
 have g3 := gx.below C
 have s3 : V2.heap.size + 1 ≤ ((V2.alloc (.cells #[.int .u64 0, .int .u64 0, .string ⟨#[]⟩, .string ⟨#[]⟩, .string ⟨#[]⟩, .string ⟨#[]⟩, .string ⟨#[]⟩, .int .u64 0, .slice none 0 0, .int .u64 0, .int .u64 0, .string ⟨#[]⟩, .string ⟨#[]⟩, .string ⟨#[]⟩, .string ⟨#[]⟩, .string ⟨#[]⟩, .int .u64 0, .slice none 0 0, .slice none 0 0, .string ⟨#[]⟩, .slice none 0 0, .string ⟨#[]⟩, .int .u64 0, .int .u64 0, .string ⟨#[]⟩, .string ⟨#[]⟩, .string ⟨#[]⟩, .string ⟨#[]⟩, .string ⟨#[]⟩, .int .u64 0, .slice none 0 0, .slice none 0 0, .string ⟨#[]⟩, .slice none 0 0, .int .u64 0, .int .u64 0, .string ⟨#[]⟩, .string ⟨#[]⟩, .string ⟨#[]⟩, .string ⟨#[]⟩, .string ⟨#[]⟩, .int .u64 0, .slice none 0 0, .slice none 0 0, .int .u64 0, .string ⟨#[]⟩, .int .u64 0, .bool false, .int .i64 0, .int .i64 0, .bool false] 38)).setRow V2.heap.size LX.toArray).heap.size := by rw [size_setRow, hsA]; exact Nat.le_refl _
 obtain ⟨V3, hV3⟩ : ∃ V, (V2.alloc (.cells #[.int .u64 0, .int .u64 0, .string ⟨#[]⟩, .string ⟨#[]⟩, .string ⟨#[]⟩, .string ⟨#[]⟩, .string ⟨#[]⟩, .int .u64 0, .slice none 0 0, .int .u64 0, .int .u64 0, .string ⟨#[]⟩, .string ⟨#[]⟩, .string ⟨#[]⟩, .string ⟨#[]⟩, .string ⟨#[]⟩, .int .u64 0, .slice none 0 0, .slice none 0 0, .string ⟨#[]⟩, .slice none 0 0, .string ⟨#[]⟩, .int .u64 0, .int .u64 0, .string ⟨#[]⟩, .string ⟨#[]⟩, .string ⟨#[]⟩, .string ⟨#[]⟩, .string ⟨#[]⟩, .int .u64 0, .slice none 0 0, .slice none 0 0, .string ⟨#[]⟩, .slice none 0 0, .int .u64 0, .int .u64 0, .string ⟨#[]⟩, .string ⟨#[]⟩, .string ⟨#[]⟩, .string ⟨#[]⟩, .string ⟨#[]⟩, .int .u64 0, .slice none 0 0, .slice none 0 0, .int .u64 0, .string ⟨#[]⟩, .int .u64 0, .bool false, .int .i64 0, .int .i64 0, .bool false] 38)).setRow V2.heap.size LX.toArray = V := ⟨_, rfl⟩
 rw [hV3] at v3 x3 y3 BV3 g3 s3 ⊢
 obtain ⟨y, hy⟩ : ∃ y, V2.heap.size = y := ⟨_, rfl⟩
 rw [hy] at v3 g3 s3 s2 ⊢
 have hyz : Hid (z + 2 ≤ y) := s2
 clear hV3 hy BA hsA nA HV x2 y2 s2 BV2 gx C
 have R1 := range_all x3
 have R2 := range_all y3
 go_wp2_with (first | (refine wpList_load_mid rfl 38 _ rfl z 0 rfl _ _ R1 Tryz.underlying38 rfl (by rw [HLn.out.1]; kernel_rfl) ?_) | (refine load_mid_wanted (by rfl) 38 _ rfl z 0 rfl _ _ R1 Tryz.underlying38 rfl (by rw [HLn.out.1]; kernel_rfl) ?_) | (refine wpList_load_mid rfl 33 _ rfl (z + 1) 0 rfl _ _ R2 Tryz.underlying33 rfl (by rw [HLn.out.2.1]; kernel_rfl) ?_) | (refine load_mid_wanted (by rfl) 33 _ rfl (z + 1) 0 rfl _ _ R2 Tryz.underlying33 rfl (by rw [HLn.out.2.1]; kernel_rfl) ?_))
 refine (K2 _ BV3 (by have := hyz.out; omega)).mono ?_
 rintro e V4 ⟨rfl, C⟩
 have x4 := x3.below C
 have y4 := y3.below C
 have v4 := v3.below C
 have g4 := g3.below (C.mono (by omega))
 have BV4 := belowStep BV3 (by have := hyz.out; omega) C
 have s4 : y + 1 ≤ V4.heap.size := by have := C.size; omega
 clear C R1 R2 x3 y3 v3 g3 BV3 s3
 clear K2
 have ee : (E == E) = true := beq_self_eq_true _
 have en : (E != E) = false := by rw [bne, ee]; rfl
 have R1 := range_of_block v4 18 CA c2
 have R2 := range_of_block x4 18 XA a2
 go_wp2_with (first | (refine wpList_load_mid rfl 31 _ rfl y 18 rfl _ _ R1 Tryz.underlying31 rfl (by rw [HLx.out]; kernel_rfl) ?_) | (refine load_mid_wanted (by rfl) 31 _ rfl y 18 rfl _ _ R1 Tryz.underlying31 rfl (by rw [HLx.out]; kernel_rfl) ?_) | (refine wpList_load_mid rfl 31 _ rfl z 18 rfl _ _ R2 Tryz.underlying31 rfl (by rw [HLn.out.2.2.1]; kernel_rfl) ?_) | (refine load_mid_wanted (by rfl) 31 _ rfl z 18 rfl _ _ R2 Tryz.underlying31 rfl (by rw [HLn.out.2.2.1]; kernel_rfl) ?_))
 refine (Ka _ BV4 (by have := hyz.out; omega) (g4.up (by omega))).mono ?_
 rintro e V5 ⟨rfl, C⟩
 have x5 := x4.below C
 have y5 := y4.below C
 have v5 := v4.below C
 have g5 := g4.below (C.mono (by omega))
 have BV5 := belowStep BV4 (by have := hyz.out; omega) C
 have s5 : y + 1 ≤ V5.heap.size := by have := C.size; omega
 clear C R1 R2 x4 y4 v4 g4 BV4 s4
 clear Ka
 have R1 := range_of_block v5 18 CA c2
 have R2 := range_of_block x5 20 XB a3
 go_wp2_with (first | (refine wpList_load_mid rfl 31 _ rfl y 18 rfl _ _ R1 Tryz.underlying31 rfl (by rw [HLx.out]; kernel_rfl) ?_) | (refine load_mid_wanted (by rfl) 31 _ rfl y 18 rfl _ _ R1 Tryz.underlying31 rfl (by rw [HLx.out]; kernel_rfl) ?_) | (refine wpList_load_mid rfl 31 _ rfl z 20 rfl _ _ R2 Tryz.underlying31 rfl (by rw [HLn.out.2.2.2]; kernel_rfl) ?_) | (refine load_mid_wanted (by rfl) 31 _ rfl z 20 rfl _ _ R2 Tryz.underlying31 rfl (by rw [HLn.out.2.2.2]; kernel_rfl) ?_))
 refine (Kb _ BV5 (by have := hyz.out; omega) (g5.up (by omega))).mono ?_
 rintro e V6 ⟨rfl, C⟩
 have x6 := x5.below C
 have y6 := y5.below C
 have v6 := v5.below C
 have g6 := g5.below (C.mono (by omega))
 have BV6 := belowStep BV5 (by have := hyz.out; omega) C
 have s6 : y + 1 ≤ V6.heap.size := by have := C.size; omega
 clear C R1 R2 x5 y5 v5 g5 BV5 s5
 clear Kb
 have cx : V6.cell? ⟨y, 0, none⟩ = some (.int .u64 (xs : Int)) := cell_of_block v6 0 _ c0
 have cs : V6.cell? ⟨z, 0, none⟩ = some (.int .u64 (ss : Int)) := cell_of_block x6 0 _ a0
 have HB : Hid _ := BV6
 clear x6 y6 v6 g6 BV6 s6 c0 c2 bx bs
 have g1 := HG.out
 have HBL : Hid _ := hbl
 cases ba <;> cases bb <;> cases bl <;> first | exact absurd g1 (by decide) | skip
 all_goals (clear g1; go_wp2; go_ret; rw [HZ.out]; first | exact ⟨rfl, HB.out⟩ | (refine ⟨?_, HB.out⟩; have h9 := hb3.out; first | (rw [h9]; rfl) | (simp only [decide_eq_true_eq] at h9; simp [h9])))
theorem lightagrees_any (s : StD) (d : UpD) (now : Int) (hs0 : s.ok) (hd : d.ok) (zs : szT s) (zd : szU d) (p : StP) (q : UpP) (w : World) (hL : Ls w) (hps : stIn w.heap.size w s p) (hp : upIn w.heap.size w d q) (hnow : 0 ≤ now ∧ now < 18446744073709551616) :
  Calls Tryz.prog 7 #[.agg (stV s p).toArray, .agg (upV d q).toArray, .int .u64 now] w fun e w' => e = .returned (.bool true) ∧ Below w.heap.size w w' := by
 obtain ⟨k, rfl⟩ := Int.eq_ofNat_of_zero_le hnow.1
 exact lightagrees_nat s d k hs0 hd zs zd p q w hL hps hp
end Go.Proofs.YtoddangedbefgabGreatDoor
