/- Lemmas: What the package's Apply does, whatever the message; what follows of a store behind it: pure. No condition but on sizes that no machine has. The law LightSees, walked. No condition but on sizes that no machine has. -/
import Derived.Test.YtoddangedbefgabGreatDoorM1
import Derived.Test.YtoddangedbefgabGreatDoorM10
import Derived.Test.YtoddangedbefgabGreatDoorM11
import Derived.Test.YtoddangedbefgabGreatDoorM12
import Derived.Test.YtoddangedbefgabGreatDoorM13
import Derived.Test.YtoddangedbefgabGreatDoorM14
import Derived.Test.YtoddangedbefgabGreatDoorM15
import Derived.Test.YtoddangedbefgabGreatDoorM16
import Derived.Test.YtoddangedbefgabGreatDoorM17
import Derived.Test.YtoddangedbefgabGreatDoorM18
import Derived.Test.YtoddangedbefgabGreatDoorM19
import Derived.Test.YtoddangedbefgabGreatDoorM2
import Derived.Test.YtoddangedbefgabGreatDoorM20
import Derived.Test.YtoddangedbefgabGreatDoorM21
import Derived.Test.YtoddangedbefgabGreatDoorM22
import Derived.Test.YtoddangedbefgabGreatDoorM23
import Derived.Test.YtoddangedbefgabGreatDoorM24
import Derived.Test.YtoddangedbefgabGreatDoorM25
import Derived.Test.YtoddangedbefgabGreatDoorM26
import Derived.Test.YtoddangedbefgabGreatDoorM27
import Derived.Test.YtoddangedbefgabGreatDoorM28
import Derived.Test.YtoddangedbefgabGreatDoorM29
import Derived.Test.YtoddangedbefgabGreatDoorM3
import Derived.Test.YtoddangedbefgabGreatDoorM30
import Derived.Test.YtoddangedbefgabGreatDoorM31
import Derived.Test.YtoddangedbefgabGreatDoorM32
import Derived.Test.YtoddangedbefgabGreatDoorM33
import Derived.Test.YtoddangedbefgabGreatDoorM34
import Derived.Test.YtoddangedbefgabGreatDoorM35
import Derived.Test.YtoddangedbefgabGreatDoorM36
import Derived.Test.YtoddangedbefgabGreatDoorM37
import Derived.Test.YtoddangedbefgabGreatDoorM38
import Derived.Test.YtoddangedbefgabGreatDoorM39
import Derived.Test.YtoddangedbefgabGreatDoorM4
import Derived.Test.YtoddangedbefgabGreatDoorM5
import Derived.Test.YtoddangedbefgabGreatDoorM6
import Derived.Test.YtoddangedbefgabGreatDoorM7
import Derived.Test.YtoddangedbefgabGreatDoorM8
import Derived.Test.YtoddangedbefgabGreatDoorM9
import Derived.Test.YtoddangedbefgabGreatDoorRows
namespace Go.Proofs.YtoddangedbefgabGreatDoor
open Go.RowKit Go.Shelf Go.Sort

theorem apply_any (s : StD) (hs0 : s.ok) (zs : szT s) (d : UpD) (hd : d.ok) (zd : szU d) (p : StP) (q : UpP) (now : Nat) (n : Nat) (w : World) (hL : Ls w) (hn : n ≤ w.heap.size) (hps : stIn n w s p) (hp : upIn n w d q) :
  Calls Tryz.prog 10 #[.agg (stV s p).toArray, .agg (upV d q).toArray, .int .u64 (now : Int)] w fun x w' => (∃ q', x = .returned (.tuple #[.agg (stV (apS s d now) q').toArray, .int .i64 (chE s d now)]) ∧ stIn w'.heap.size w' (apS s d now) q') ∧ Below w.heap.size w w' := by
 by_cases he : chE s d now = 0
 ·rw [he]
  refine (apply_yes s hs0 zs d hd zd p q now n w hL hn hps hp he).mono ?_
  rintro e w' ⟨⟨q', rfl, g⟩, hb⟩
  exact ⟨⟨q', rfl, g.stIn⟩, hb⟩
 ·have e1 : apS s d now = s := if_pos he
  rw [e1]
  refine (apply_no s hs0 zs d hd zd p q now n w hL hn hps hp he).mono ?_
  rintro e w' ⟨⟨q', rfl, g⟩, hb⟩
  exact ⟨⟨q', rfl, g.stIn⟩, hb⟩
/-! ### What is right has these parts right -/
/-! ### Taking over -/
theorem tk_fin (s : StD) (d : UpD) : (tkS s d).fin = if s.fin.s < d.f.s then d.f else s.fin := by
 show (if tkU s d = true then d.f else s.fin) = _
 unfold tkU
 by_cases h : s.fin.s < d.f.s
 ·rw [if_pos h, if_pos (decide_eq_true h)]
 ·rw [if_neg h, if_neg (by simp [h])]
theorem tk_new (s : StD) (d : UpD) : (tkS s d).new = d.f ∧ s.new.s < d.f.s ∧ s.fin.s < d.f.s ∨ (tkS s d).new = s.new := by
 show (if tkV s d = true then d.f else s.new) = _ ∧ _ ∨ (if tkV s d = true then d.f else s.new) = _
 cases h : tkV s d with
 | false => exact .inr rfl
 | true =>
  unfold tkV tkU at h
  simp only [Bool.and_eq_true, decide_eq_true_eq] at h
  exact .inl ⟨rfl, h.2, h.1⟩
theorem apT_new (s : StD) (d : UpD) : (apT s d).new = d.l ∧ s.new.s < d.l.s ∨ (apT s d).new = s.new := by
 show (if apN s d = true then d.l else s.new) = _ ∧ _ ∨ (if apN s d = true then d.l else s.new) = _
 cases h : apN s d with
 | false => exact .inr rfl
 | true =>
  unfold apN at h
  simp only [Bool.and_eq_true, decide_eq_true_eq] at h
  exact .inl ⟨rfl, h.2⟩
theorem apS_cases (s : StD) (d : UpD) (now : Nat) : chE s d now ≠ 0 ∧ apS s d now = s ∨ chE s d now = 0 ∧ fzB (apT s d) d = true ∧ apS s d now = tkS (apT s d) d ∨ chE s d now = 0 ∧ fzB (apT s d) d = false ∧ apS s d now = apT s d := by
 unfold apS
 by_cases h : chE s d now = 0
 ·rw [if_neg (fun g => g h)]
  cases g : fzB (apT s d) d with
  | true => exact .inr (.inl ⟨h, rfl, if_pos rfl⟩)
  | false => exact .inr (.inr ⟨h, rfl, if_neg (by decide)⟩)
 ·rw [if_pos h]
  exact .inl ⟨h, rfl⟩
theorem apS_sees (s : StD) (d : UpD) (now : Nat) : ((apS s d now).fin = s.fin ∨ (apS s d now).fin = d.f) ∧ ((apS s d now).new = s.new ∨ (apS s d now).new = d.f ∨ (apS s d now).new = d.l) := by
 have hT : (apT s d).new = s.new ∨ (apT s d).new = d.l := by
  rcases apT_new s d with ⟨g, _⟩ | g
  ·exact .inr g
  ·exact .inl g
 rcases apS_cases s d now with ⟨_, e⟩ | ⟨_, _, e⟩ | ⟨_, _, e⟩
 ·rw [e]
  exact ⟨.inl rfl, .inl rfl⟩
 ·rw [e]
  refine ⟨?_, ?_⟩
  ·rw [tk_fin]
   split
   ·exact .inr rfl
   ·exact .inl rfl
  ·rcases tk_new (apT s d) d with ⟨g, _⟩ | g
   ·exact .inr (.inl g)
   ·rw [g]
    rcases hT with h | h
    ·exact .inl h
    ·exact .inr (.inr h)
 ·rw [e]
  refine ⟨.inl rfl, ?_⟩
  rcases hT with h | h
  ·exact .inl h
  ·exact .inr (.inr h)
end Go.Proofs.YtoddangedbefgabGreatDoor
namespace Go.Proofs.YtoddangedbefgabGreatDoor
open Go.RowKit Go.Shelf Go.Sort

set_option maxRecDepth 20000 in
set_option maxHeartbeats 8000000 in
theorem lightsees_nat (s : StD) (d : UpD) (now : Nat) (hs0 : s.ok) (hd : d.ok) (zs : szT s) (zd : szU d) (p : StP) (q : UpP) (w : World) (hL : Ls w) (hps : stIn w.heap.size w s p) (hp : upIn w.heap.size w d q) :
  Calls Tryz.prog 4 #[.agg (stV s p).toArray, .agg (upV d q).toArray, .int .u64 (now : Int)] w fun e w' => e = .returned (.bool true) ∧ Below w.heap.size w w' := by
 have KS := fun (W : World) (hB : Below w.heap.size w W) => shown14_any W (hL.s.below hB)
 have K1 := fun (W : World) (hB : Below w.heap.size w W) (hs : w.heap.size ≤ W.heap.size) => apply_any s hs0 zs d hd zd p q now w.heap.size W (hL.below hB) hs (hps.below hB) (hp.below hB)
 have sx : szT (apS s d now) := apS_sz zs zd
 have lgX := lgT_sz sx
 have lgS := lgT_sz zs
 have lgU_ := lgU_sz zd
 have Ka := fun (qx : StP) (W : World) (hB : Below w.heap.size w W) (hs : w.heap.size ≤ W.heap.size) (hx : stIn W.heap.size W (apS s d now) qx) => sameLt_any (apS s d now).fin s.fin lgX.1 lgS.1 qx.fin p.fin W.heap.size W (Nat.le_refl _) hx.1 (slS_mono (slS_below hB hps.1) hs)
 have Kb := fun (qx : StP) (W : World) (hB : Below w.heap.size w W) (hs : w.heap.size ≤ W.heap.size) (hx : stIn W.heap.size W (apS s d now) qx) => sameLt_any (apS s d now).fin d.f lgX.1 lgU_.2.2.2.1 qx.fin q.f W.heap.size W (Nat.le_refl _) hx.1 (slS_mono (slS_below hB hp.2.2.2.1) hs)
 have Kc := fun (qx : StP) (W : World) (hB : Below w.heap.size w W) (hs : w.heap.size ≤ W.heap.size) (hx : stIn W.heap.size W (apS s d now) qx) => sameLt_any (apS s d now).new s.new lgX.2.1 lgS.2.1 qx.new p.new W.heap.size W (Nat.le_refl _) hx.2.1 (slS_mono (slS_below hB hps.2.1) hs)
 have Kd := fun (qx : StP) (W : World) (hB : Below w.heap.size w W) (hs : w.heap.size ≤ W.heap.size) (hx : stIn W.heap.size W (apS s d now) qx) => sameLt_any (apS s d now).new d.f lgX.2.1 lgU_.2.2.2.1 qx.new q.f W.heap.size W (Nat.le_refl _) hx.2.1 (slS_mono (slS_below hB hp.2.2.2.1) hs)
 have Kf := fun (qx : StP) (W : World) (hB : Below w.heap.size w W) (hs : w.heap.size ≤ W.heap.size) (hx : stIn W.heap.size W (apS s d now) qx) => sameLt_any (apS s d now).new d.l lgX.2.1 lgU_.1 qx.new q.l W.heap.size W (Nat.le_refl _) hx.2.1 (slS_mono (slS_below hB hp.1) hs)
 obtain ⟨f1, f2⟩ := apS_sees s d now
 have g1 : (eqLt (apS s d now).fin s.fin || eqLt (apS s d now).fin d.f) = true := by
  rcases f1 with h | h
  ·rw [(eqLt_iff _ _).2 h]; rfl
  ·rw [(eqLt_iff _ _).2 h]; exact Bool.or_true _
 have g2 : (eqLt (apS s d now).new s.new || eqLt (apS s d now).new d.f || eqLt (apS s d now).new d.l) = true := by
  rcases f2 with h | h | h
  ·rw [(eqLt_iff _ _).2 h]; rfl
  ·rw [(eqLt_iff _ _).2 h, Bool.or_true]; rfl
  ·rw [(eqLt_iff _ _).2 h, Bool.or_true]
 have a0 := stV_fin s p
 have a1 := stV_new s p
 have u0 := upV_l d q
 have u12 := upV_f d q
 have HLn : Hid ((stV s p).length = 51 ∧ (upV d q).length = 25 ∧ (ltV s.fin p.fin).length = 9 ∧ (ltV s.new p.new).length = 9 ∧ (ltV d.l q.l).length = 9 ∧ (ltV d.f q.f).length = 9) := show _ from ⟨rfl, rfl, rfl, rfl, rfl, rfl⟩
 obtain ⟨E, hE⟩ : ∃ x, chE s d now = x := ⟨_, rfl⟩
 rw [hE] at K1
 obtain ⟨ba, hba⟩ : ∃ x, eqLt (apS s d now).fin s.fin = x := ⟨_, rfl⟩
 obtain ⟨bb, hbb⟩ : ∃ x, eqLt (apS s d now).fin d.f = x := ⟨_, rfl⟩
 obtain ⟨bc, hbc⟩ : ∃ x, eqLt (apS s d now).new s.new = x := ⟨_, rfl⟩
 obtain ⟨bd, hbd⟩ : ∃ x, eqLt (apS s d now).new d.f = x := ⟨_, rfl⟩
 obtain ⟨bf, hbf⟩ : ∃ x, eqLt (apS s d now).new d.l = x := ⟨_, rfl⟩
 rw [hba] at Ka g1
 rw [hbb] at Kb g1
 rw [hbc] at Kc g2
 rw [hbd] at Kd g2
 rw [hbf] at Kf g2
 obtain ⟨X, hX⟩ : ∃ x, apS s d now = x := ⟨_, rfl⟩
 rw [hX] at K1 Ka Kb Kc Kd Kf
 have HG : Hid (_ ∧ _) := ⟨g1, g2⟩
 obtain ⟨LS, hLS⟩ : ∃ L, stV s p = L := ⟨_, rfl⟩
 obtain ⟨LU, hLU⟩ : ∃ L, upV d q = L := ⟨_, rfl⟩
 obtain ⟨XA, hXA⟩ : ∃ L, ltV s.fin p.fin = L := ⟨_, rfl⟩
 obtain ⟨XB, hXB⟩ : ∃ L, ltV s.new p.new = L := ⟨_, rfl⟩
 obtain ⟨UL, hUL⟩ : ∃ L, ltV d.l q.l = L := ⟨_, rfl⟩
 obtain ⟨UF, hUF⟩ : ∃ L, ltV d.f q.f = L := ⟨_, rfl⟩
 rw [hLS] at K1 a0 a1 HLn ⊢
 rw [hLU] at K1 u0 u12 HLn ⊢
 rw [hXA] at Ka a0 HLn
 rw [hXB] at Kc a1 HLn
 rw [hUL] at Kf u0 HLn
 rw [hUF] at Kb Kd u12 HLn
 clear hE hba hbb hbc hbd hbf hX hLS hLU hXA hXB hUL hUF sx lgX lgS lgU_ f1 f2 g1 g2 hL hps hp hs0 hd zs zd
 obtain ⟨B1, xS, xU, hs⟩ := box2 w (.cells LS.toArray 38) (.cells LU.toArray 33)
 obtain ⟨z, hz⟩ : ∃ z, w.heap.size = z := ⟨_, rfl⟩
 have HZ : Hid (w.heap.size = z) := hz
 rw [hz] at B1 xS xU hs KS K1 Ka Kb Kc Kd Kf
 go_enter Tryz.func4, Tryz.ntmps4
 go_wp2_with fail
 refine (KS _ B1).mono ?_
 rintro e V1 ⟨rfl, C⟩
 have x1 : Bq z 38 LS.toArray V1 := (C.block z (by omega)).trans xS
 have y1 : Bq (z + 1) 33 LU.toArray V1 := (C.block (z + 1) (by omega)).trans xU
 have BV1 := belowStep B1 (by omega) C
 have s1 : z + 2 ≤ V1.heap.size := by have := C.size; omega
 clear C KS xS xU hs B1 hz
 have RS := range_all x1
 have RU := range_all y1
 go_wp2_with (first | (refine wpList_load_mid rfl 38 _ rfl z 0 rfl _ _ RS Tryz.underlying38 rfl (by rw [HLn.out.1]; kernel_rfl) ?_) | (refine load_mid_wanted (by rfl) 38 _ rfl z 0 rfl _ _ RS Tryz.underlying38 rfl (by rw [HLn.out.1]; kernel_rfl) ?_) | (refine wpList_load_mid rfl 33 _ rfl (z + 1) 0 rfl _ _ RU Tryz.underlying33 rfl (by rw [HLn.out.2.1]; kernel_rfl) ?_) | (refine load_mid_wanted (by rfl) 33 _ rfl (z + 1) 0 rfl _ _ RU Tryz.underlying33 rfl (by rw [HLn.out.2.1]; kernel_rfl) ?_))
 refine (K1 _ BV1 (by omega)).mono ?_
 rintro e V2 ⟨⟨qx, rfl, gx⟩, C⟩
 have x2 := x1.below C
 have y2 := y1.below C
 have BV2 := belowStep BV1 (by omega) C
 have s2 : z + 2 ≤ V2.heap.size := by have := C.size; omega
 clear C K1 RS RU x1 y1 BV1 s1
 have hQ : Hid ((stV X qx).toArray.size = 51) := show _ from rfl
 have hO : Hid ((stV X qx).toArray.all (·.oneCell') = true) := show _ from one_arr (stV_one _ _)
 have c0 := stV_fin X qx
 have c1 := stV_new X qx
 have HLx : Hid ((ltV X.fin qx.fin).length = 9 ∧ (ltV X.new qx.new).length = 9) := show _ from ⟨rfl, rfl⟩
 have Ka := Ka qx
 have Kb := Kb qx
 have Kc := Kc qx
 have Kd := Kd qx
 have Kf := Kf qx
 obtain ⟨LX, hLX⟩ : ∃ L, stV X qx = L := ⟨_, rfl⟩
 obtain ⟨CA, hCA⟩ : ∃ L, ltV X.fin qx.fin = L := ⟨_, rfl⟩
 obtain ⟨CB, hCB⟩ : ∃ L, ltV X.new qx.new = L := ⟨_, rfl⟩
 rw [hLX] at hQ hO c0 c1
 rw [hCA] at Ka Kb c0 HLx
 rw [hCB] at Kc Kd Kf c1 HLx
 rw [hLX]
 clear hLX hCA hCB
 obtain ⟨BA, nA, hsA⟩ := box1 V2 (.cells #[.int .u64 0, .int .u64 0, .string ⟨#[]⟩, .string ⟨#[]⟩, .string ⟨#[]⟩, .string ⟨#[]⟩, .string ⟨#[]⟩, .int .u64 0, .slice none 0 0, .int .u64 0, .int .u64 0, .string ⟨#[]⟩, .string ⟨#[]⟩, .string ⟨#[]⟩, .string ⟨#[]⟩, .string ⟨#[]⟩, .int .u64 0, .slice none 0 0, .slice none 0 0, .string ⟨#[]⟩, .slice none 0 0, .string ⟨#[]⟩, .int .u64 0, .int .u64 0, .string ⟨#[]⟩, .string ⟨#[]⟩, .string ⟨#[]⟩, .string ⟨#[]⟩, .string ⟨#[]⟩, .int .u64 0, .slice none 0 0, .slice none 0 0, .string ⟨#[]⟩, .slice none 0 0, .int .u64 0, .int .u64 0, .string ⟨#[]⟩, .string ⟨#[]⟩, .string ⟨#[]⟩, .string ⟨#[]⟩, .string ⟨#[]⟩, .int .u64 0, .slice none 0 0, .slice none 0 0, .int .u64 0, .string ⟨#[]⟩, .int .u64 0, .bool false, .int .i64 0, .int .i64 0, .bool false] 38)
 have HV : Hid (_ ∧ _ ∧ _ ∧ _ ∧ _ ∧ _ ∧ _) := ⟨BA, hsA, x2, y2, s2, BV2, gx⟩
 clear BA hsA x2 y2 s2 BV2 gx
 go_wp2_with (first | (refine store_row0 rfl rfl 38 _ _ rfl V2.heap.size _ rfl rfl 38 _ nA (by rw [hQ.out]; kernel_rfl) (by rw [hQ.out]; rfl) hO.out ?_; refine Stp.out ?_))
 refine ⟨?_⟩
 obtain ⟨BA, hsA, x2, y2, s2, BV2, gx⟩ := HV.out
 have v3 := Bq.row (show Bq V2.heap.size 38 _ _ from nA) LX.toArray
 have C := below_row BA (Nat.le_refl _) LX.toArray
 have x3 := x2.below C
 have y3 := y2.below C
 have BV3 := belowStep BV2 (by omega) C
 have g3 := gx.below C
 have s3 : V2.heap.size + 1 ≤ ((V2.alloc (.cells #[.int .u64 0, .int .u64 0, .string ⟨#[]⟩, .string ⟨#[]⟩, .string ⟨#[]⟩, .string ⟨#[]⟩, .string ⟨#[]⟩, .int .u64 0, .slice none 0 0, .int .u64 0, .int .u64 0, .string ⟨#[]⟩, .string ⟨#[]⟩, .string ⟨#[]⟩, .string ⟨#[]⟩, .string ⟨#[]⟩, .int .u64 0, .slice none 0 0, .slice none 0 0, .string ⟨#[]⟩, .slice none 0 0, .string ⟨#[]⟩, .int .u64 0, .int .u64 0, .string ⟨#[]⟩, .string ⟨#[]⟩, .string ⟨#[]⟩, .string ⟨#[]⟩, .string ⟨#[]⟩, .int .u64 0, .slice none 0 0, .slice none 0 0, .string ⟨#[]⟩, .slice none 0 0, .int .u64 0, .int .u64 0, .string ⟨#[]⟩, .string ⟨#[]⟩, .string ⟨#[]⟩, .string ⟨#[]⟩, .string ⟨#[]⟩, .int .u64 0, .slice none 0 0, .slice none 0 0, .int .u64 0, .string ⟨#[]⟩, .int .u64 0, .bool false, .int .i64 0, .int .i64 0, .bool false] 38)).setRow V2.heap.size LX.toArray).heap.size := by rw [size_setRow, hsA]; exact Nat.le_refl _
 obtain ⟨V3, hV3⟩ : ∃ V, (V2.alloc (.cells #[.int .u64 0, .int .u64 0, .string ⟨#[]⟩, .string ⟨#[]⟩, .string ⟨#[]⟩, .string ⟨#[]⟩, .string ⟨#[]⟩, .int .u64 0, .slice none 0 0, .int .u64 0, .int .u64 0, .string ⟨#[]⟩, .string ⟨#[]⟩, .string ⟨#[]⟩, .string ⟨#[]⟩, .string ⟨#[]⟩, .int .u64 0, .slice none 0 0, .slice none 0 0, .string ⟨#[]⟩, .slice none 0 0, .string ⟨#[]⟩, .int .u64 0, .int .u64 0, .string ⟨#[]⟩, .string ⟨#[]⟩, .string ⟨#[]⟩, .string ⟨#[]⟩, .string ⟨#[]⟩, .int .u64 0, .slice none 0 0, .slice none 0 0, .string ⟨#[]⟩, .slice none 0 0, .int .u64 0, .int .u64 0, .string ⟨#[]⟩, .string ⟨#[]⟩, .string ⟨#[]⟩, .string ⟨#[]⟩, .string ⟨#[]⟩, .int .u64 0, .slice none 0 0, .slice none 0 0, .int .u64 0, .string ⟨#[]⟩, .int .u64 0, .bool false, .int .i64 0, .int .i64 0, .bool false] 38)).setRow V2.heap.size LX.toArray = V := ⟨_, rfl⟩
 rw [hV3] at v3 x3 y3 BV3 g3 s3 ⊢
 obtain ⟨y, hy⟩ : ∃ y, V2.heap.size = y := ⟨_, rfl⟩
 rw [hy] at v3 g3 s3 s2 ⊢
 have hyz : Hid (z + 2 ≤ y) := s2
 clear hV3 hy BA hsA nA HV x2 y2 s2 BV2 gx C
 by_cases h1 : E = 0
 ·subst h1
  have R1 := range_of_block v3 0 CA c0
  have R2 := range_of_block x3 0 XA a0
  go_wp2_with (first | (refine wpList_load_mid rfl 29 _ rfl y 0 rfl _ _ R1 Tryz.underlying29 rfl (by rw [HLx.out.1]; kernel_rfl) ?_) | (refine load_mid_wanted (by rfl) 29 _ rfl y 0 rfl _ _ R1 Tryz.underlying29 rfl (by rw [HLx.out.1]; kernel_rfl) ?_) | (refine wpList_load_mid rfl 29 _ rfl z 0 rfl _ _ R2 Tryz.underlying29 rfl (by rw [HLn.out.2.2.1]; kernel_rfl) ?_) | (refine load_mid_wanted (by rfl) 29 _ rfl z 0 rfl _ _ R2 Tryz.underlying29 rfl (by rw [HLn.out.2.2.1]; kernel_rfl) ?_))
  refine (Ka _ BV3 (by have := hyz.out; omega) (g3.up (by omega))).mono ?_
  rintro e V4 ⟨rfl, C⟩
  have x4 := x3.below C
  have y4 := y3.below C
  have v4 := v3.below C
  have g4 := g3.below (C.mono (by omega))
  have BV4 := belowStep BV3 (by have := hyz.out; omega) C
  have s4 : y + 1 ≤ V4.heap.size := by have := C.size; omega
  clear C Ka R1 R2 x3 y3 v3 g3 BV3 s3
  have R1 := range_of_block v4 0 CA c0
  have R2 := range_of_block y4 12 UF u12
  go_wp2_with (first | (refine wpList_load_mid rfl 29 _ rfl y 0 rfl _ _ R1 Tryz.underlying29 rfl (by rw [HLx.out.1]; kernel_rfl) ?_) | (refine load_mid_wanted (by rfl) 29 _ rfl y 0 rfl _ _ R1 Tryz.underlying29 rfl (by rw [HLx.out.1]; kernel_rfl) ?_) | (refine wpList_load_mid rfl 29 _ rfl (z + 1) 12 rfl _ _ R2 Tryz.underlying29 rfl (by rw [HLn.out.2.2.2.2.2]; kernel_rfl) ?_) | (refine load_mid_wanted (by rfl) 29 _ rfl (z + 1) 12 rfl _ _ R2 Tryz.underlying29 rfl (by rw [HLn.out.2.2.2.2.2]; kernel_rfl) ?_))
  refine (Kb _ BV4 (by have := hyz.out; omega) (g4.up (by omega))).mono ?_
  rintro e V5 ⟨rfl, C⟩
  have x5 := x4.below C
  have y5 := y4.below C
  have v5 := v4.below C
  have g5 := g4.below (C.mono (by omega))
  have BV5 := belowStep BV4 (by have := hyz.out; omega) C
  have s5 : y + 1 ≤ V5.heap.size := by have := C.size; omega
  clear C Kb R1 R2 x4 y4 v4 g4 BV4 s4
  have R1 := range_of_block v5 9 CB c1
  have R2 := range_of_block x5 9 XB a1
  go_wp2_with (first | (refine wpList_load_mid rfl 29 _ rfl y 9 rfl _ _ R1 Tryz.underlying29 rfl (by rw [HLx.out.2]; kernel_rfl) ?_) | (refine load_mid_wanted (by rfl) 29 _ rfl y 9 rfl _ _ R1 Tryz.underlying29 rfl (by rw [HLx.out.2]; kernel_rfl) ?_) | (refine wpList_load_mid rfl 29 _ rfl z 9 rfl _ _ R2 Tryz.underlying29 rfl (by rw [HLn.out.2.2.2.1]; kernel_rfl) ?_) | (refine load_mid_wanted (by rfl) 29 _ rfl z 9 rfl _ _ R2 Tryz.underlying29 rfl (by rw [HLn.out.2.2.2.1]; kernel_rfl) ?_))
  refine (Kc _ BV5 (by have := hyz.out; omega) (g5.up (by omega))).mono ?_
  rintro e V6 ⟨rfl, C⟩
  have x6 := x5.below C
  have y6 := y5.below C
  have v6 := v5.below C
  have g6 := g5.below (C.mono (by omega))
  have BV6 := belowStep BV5 (by have := hyz.out; omega) C
  have s6 : y + 1 ≤ V6.heap.size := by have := C.size; omega
  clear C Kc R1 R2 x5 y5 v5 g5 BV5 s5
  have R1 := range_of_block v6 9 CB c1
  have R2 := range_of_block y6 12 UF u12
  go_wp2_with (first | (refine wpList_load_mid rfl 29 _ rfl y 9 rfl _ _ R1 Tryz.underlying29 rfl (by rw [HLx.out.2]; kernel_rfl) ?_) | (refine load_mid_wanted (by rfl) 29 _ rfl y 9 rfl _ _ R1 Tryz.underlying29 rfl (by rw [HLx.out.2]; kernel_rfl) ?_) | (refine wpList_load_mid rfl 29 _ rfl (z + 1) 12 rfl _ _ R2 Tryz.underlying29 rfl (by rw [HLn.out.2.2.2.2.2]; kernel_rfl) ?_) | (refine load_mid_wanted (by rfl) 29 _ rfl (z + 1) 12 rfl _ _ R2 Tryz.underlying29 rfl (by rw [HLn.out.2.2.2.2.2]; kernel_rfl) ?_))
  refine (Kd _ BV6 (by have := hyz.out; omega) (g6.up (by omega))).mono ?_
  rintro e V7 ⟨rfl, C⟩
  have x7 := x6.below C
  have y7 := y6.below C
  have v7 := v6.below C
  have g7 := g6.below (C.mono (by omega))
  have BV7 := belowStep BV6 (by have := hyz.out; omega) C
  have s7 : y + 1 ≤ V7.heap.size := by have := C.size; omega
  clear C Kd R1 R2 x6 y6 v6 g6 BV6 s6
  have R1 := range_of_block v7 9 CB c1
  have R2 := range_of_block y7 0 UL u0
  go_wp2_with (first | (refine wpList_load_mid rfl 29 _ rfl y 9 rfl _ _ R1 Tryz.underlying29 rfl (by rw [HLx.out.2]; kernel_rfl) ?_) | (refine load_mid_wanted (by rfl) 29 _ rfl y 9 rfl _ _ R1 Tryz.underlying29 rfl (by rw [HLx.out.2]; kernel_rfl) ?_) | (refine wpList_load_mid rfl 29 _ rfl (z + 1) 0 rfl _ _ R2 Tryz.underlying29 rfl (by rw [HLn.out.2.2.2.2.1]; kernel_rfl) ?_) | (refine load_mid_wanted (by rfl) 29 _ rfl (z + 1) 0 rfl _ _ R2 Tryz.underlying29 rfl (by rw [HLn.out.2.2.2.2.1]; kernel_rfl) ?_))
  refine (Kf _ BV7 (by have := hyz.out; omega) (g7.up (by omega))).mono ?_
  rintro e V8 ⟨rfl, C⟩
  have x8 := x7.below C
  have y8 := y7.below C
  have v8 := v7.below C
  have g8 := g7.below (C.mono (by omega))
  have BV8 := belowStep BV7 (by have := hyz.out; omega) C
  have s8 : y + 1 ≤ V8.heap.size := by have := C.size; omega
  clear C Kf R1 R2 x7 y7 v7 g7 BV7 s7
  have HB : Hid _ := BV8
  clear x8 y8 v8 g8 BV8 s8 c0 c1
  obtain ⟨g1, g2⟩ := HG.out
  cases ba <;> cases bb <;> cases bc <;> cases bd <;> cases bf <;> first | exact absurd g1 (by decide) | exact absurd g2 (by decide) | skip
  all_goals (clear g1 g2; go_wp2; go_ret; rw [HZ.out]; exact ⟨rfl, HB.out⟩)
 ·have e1 : (E == 0) = false := by rw [beq_eq_false_iff_ne]; exact h1
  have e2 : (E != 0) = true := by rw [bne, e1]; rfl
  have HB : Hid _ := BV3
  clear x3 y3 v3 BV3 g3 s3 Ka Kb Kc Kd Kf h1 c0 c1
  go_wp2
  go_ret
  rw [HZ.out]
  exact ⟨rfl, HB.out⟩
theorem lightsees_any (s : StD) (d : UpD) (now : Int) (hs0 : s.ok) (hd : d.ok) (zs : szT s) (zd : szU d) (p : StP) (q : UpP) (w : World) (hL : Ls w) (hps : stIn w.heap.size w s p) (hp : upIn w.heap.size w d q) (hnow : 0 ≤ now ∧ now < 18446744073709551616) :
  Calls Tryz.prog 4 #[.agg (stV s p).toArray, .agg (upV d q).toArray, .int .u64 now] w fun e w' => e = .returned (.bool true) ∧ Below w.heap.size w w' := by
 obtain ⟨k, rfl⟩ := Int.eq_ofNat_of_zero_le hnow.1
 exact lightsees_nat s d k hs0 hd zs zd p q w hL hps hp
end Go.Proofs.YtoddangedbefgabGreatDoor
