/- Lemmas: The law HeadBack, walked. -/
import Derived.Test.YtmefanagpkbjeaaDoorM1
import Derived.Test.YtmefanagpkbjeaaDoorM10
import Derived.Test.YtmefanagpkbjeaaDoorM11
import Derived.Test.YtmefanagpkbjeaaDoorM12
import Derived.Test.YtmefanagpkbjeaaDoorM13
import Derived.Test.YtmefanagpkbjeaaDoorM14
import Derived.Test.YtmefanagpkbjeaaDoorM15
import Derived.Test.YtmefanagpkbjeaaDoorM16
import Derived.Test.YtmefanagpkbjeaaDoorM17
import Derived.Test.YtmefanagpkbjeaaDoorM18
import Derived.Test.YtmefanagpkbjeaaDoorM19
import Derived.Test.YtmefanagpkbjeaaDoorM2
import Derived.Test.YtmefanagpkbjeaaDoorM20
import Derived.Test.YtmefanagpkbjeaaDoorM21
import Derived.Test.YtmefanagpkbjeaaDoorM22
import Derived.Test.YtmefanagpkbjeaaDoorM23
import Derived.Test.YtmefanagpkbjeaaDoorM24
import Derived.Test.YtmefanagpkbjeaaDoorM25
import Derived.Test.YtmefanagpkbjeaaDoorM26
import Derived.Test.YtmefanagpkbjeaaDoorM27
import Derived.Test.YtmefanagpkbjeaaDoorM28
import Derived.Test.YtmefanagpkbjeaaDoorM29
import Derived.Test.YtmefanagpkbjeaaDoorM3
import Derived.Test.YtmefanagpkbjeaaDoorM30
import Derived.Test.YtmefanagpkbjeaaDoorM31
import Derived.Test.YtmefanagpkbjeaaDoorM32
import Derived.Test.YtmefanagpkbjeaaDoorM33
import Derived.Test.YtmefanagpkbjeaaDoorM34
import Derived.Test.YtmefanagpkbjeaaDoorM35
import Derived.Test.YtmefanagpkbjeaaDoorM36
import Derived.Test.YtmefanagpkbjeaaDoorM37
import Derived.Test.YtmefanagpkbjeaaDoorM38
import Derived.Test.YtmefanagpkbjeaaDoorM39
import Derived.Test.YtmefanagpkbjeaaDoorM4
import Derived.Test.YtmefanagpkbjeaaDoorM40
import Derived.Test.YtmefanagpkbjeaaDoorM41
import Derived.Test.YtmefanagpkbjeaaDoorM42
import Derived.Test.YtmefanagpkbjeaaDoorM6
import Derived.Test.YtmefanagpkbjeaaDoorM7
import Derived.Test.YtmefanagpkbjeaaDoorM8
import Derived.Test.YtmefanagpkbjeaaDoorM9
import Derived.Test.YtmefanagpkbjeaaDoorRows
namespace Go.Proofs.YtmefanagpkbjeaaDoor
open Go.RowKit Go.Shelf Go.Sort
set_option maxRecDepth 100000 in
set_option maxHeartbeats 4000000 in
theorem headback_any (d : BtD) (g : UpD) (s : ByteArray) (a1 a2 a3 b1 b2 b3 b4 b5 : Option Addr) (c1 c2 c3 e1 e2 e3 e4 e5 : Nat) (hd : d.l.ok) (hgl : g.l.ok) (hgf : g.f.ok) (hb6 : U6 g.bits) (hs6 : U6 g.slot) (htb : tbI (btI d) < 10000000) (htu : tbI (upI g) < 10000000) (hsz : s.size < 10000000) (w : World) (hl : Laid w)
    (s1 : slS w.heap.size w a1 d.l.br) (s2 : slS w.heap.size w a2 d.c.ks) (s3 : slS w.heap.size w a3 d.br) (r1 : slS w.heap.size w b1 g.l.br) (r2 : slS w.heap.size w b2 g.c.ks) (r3 : slS w.heap.size w b3 g.nb) (r4 : slS w.heap.size w b4 g.f.br) (r5 : slS w.heap.size w b5 g.fb) :
    Calls Tryd.prog 6 #[.agg #[.int .u64 (d.l.s : Int), .int .u64 (d.l.u : Int), .string d.l.p, .string d.l.t, .string d.l.b, .string d.l.ea, .string d.l.ra, .int .u64 (d.l.m : Int), .slice a1 d.l.br.length c1, .slice a2 d.c.ks.length c2, .string d.c.sm, .slice a3 d.br.length c3], .agg #[.int .u64 (g.l.s : Int), .int .u64 (g.l.u : Int), .string g.l.p, .string g.l.t, .string g.l.b, .string g.l.ea, .string g.l.ra, .int .u64 (g.l.m : Int), .slice b1 g.l.br.length e1, .slice b2 g.c.ks.length e2, .string g.c.sm, .slice b3 g.nb.length e3, .int .u64 (g.f.s : Int), .int .u64 (g.f.u : Int), .string g.f.p, .string g.f.t, .string g.f.b, .string g.f.ea, .string g.f.ra, .int .u64 (g.f.m : Int), .slice b4 g.f.br.length e4, .slice b5 g.fb.length e5, .int .u64 (g.bits : Int), .string g.sig, .int .u64 (g.slot : Int)], .string s] w fun e w' => e = .returned (.bool true) ∧ Below w.heap.size w w' := by
  have KS := fun (W : World) (hB : Below w.heap.size w W) => shown13_any W (hl.below hB)
  have K1 := fun (W : World) (hB : Below w.heap.size w W) => bootBytes_any d a1 a2 a3 c1 c2 c3 hd htb w.heap.size W hB.size (slS_below hB s1) (slS_below hB s2) (slS_below hB s3)
  have K3 := fun (W : World) (hB : Below w.heap.size w W) => updBytes_any g b1 b2 b3 b4 b5 e1 e2 e3 e4 e5 hgl hgf hb6 hs6 htu w.heap.size W hB.size (slS_below hB r1) (slS_below hB r2) (slS_below hB r3) (slS_below hB r4) (slS_below hB r5)
  obtain ⟨v1, hv1⟩ : ∃ v, eS (btI d) = v := ⟨_, rfl⟩
  obtain ⟨v2, hv2⟩ : ∃ v, eE (btI d) = v := ⟨_, rfl⟩
  obtain ⟨v3, hv3⟩ : ∃ v, eS (upI g) = v := ⟨_, rfl⟩
  obtain ⟨v4, hv4⟩ : ∃ v, eE (upI g) = v := ⟨_, rfl⟩
  rw [hv1, hv2] at K1
  rw [hv3, hv4] at K3
  have HVB : Hid (eS (btI d) = v1 ∧ eE (btI d) = v2) := ⟨hv1, hv2⟩
  have HVU : Hid (eS (upI g) = v3 ∧ eE (upI g) = v4) := ⟨hv3, hv4⟩
  clear hv1 hv2 hv3 hv4
  obtain ⟨bq0, hbq0⟩ : ∃ v, (Value.int .u64 (d.l.s : Int)) = v := ⟨_, rfl⟩
  obtain ⟨bq1, hbq1⟩ : ∃ v, (Value.int .u64 (d.l.u : Int)) = v := ⟨_, rfl⟩
  obtain ⟨bq2, hbq2⟩ : ∃ v, (Value.string d.l.p) = v := ⟨_, rfl⟩
  obtain ⟨bq3, hbq3⟩ : ∃ v, (Value.string d.l.t) = v := ⟨_, rfl⟩
  obtain ⟨bq4, hbq4⟩ : ∃ v, (Value.string d.l.b) = v := ⟨_, rfl⟩
  obtain ⟨bq5, hbq5⟩ : ∃ v, (Value.string d.l.ea) = v := ⟨_, rfl⟩
  obtain ⟨bq6, hbq6⟩ : ∃ v, (Value.string d.l.ra) = v := ⟨_, rfl⟩
  obtain ⟨bq7, hbq7⟩ : ∃ v, (Value.int .u64 (d.l.m : Int)) = v := ⟨_, rfl⟩
  obtain ⟨bq8, hbq8⟩ : ∃ v, (Value.slice a1 d.l.br.length c1) = v := ⟨_, rfl⟩
  obtain ⟨bq9, hbq9⟩ : ∃ v, (Value.slice a2 d.c.ks.length c2) = v := ⟨_, rfl⟩
  obtain ⟨bq10, hbq10⟩ : ∃ v, (Value.string d.c.sm) = v := ⟨_, rfl⟩
  obtain ⟨bq11, hbq11⟩ : ∃ v, (Value.slice a3 d.br.length c3) = v := ⟨_, rfl⟩
  obtain ⟨uq0, huq0⟩ : ∃ v, (Value.int .u64 (g.l.s : Int)) = v := ⟨_, rfl⟩
  obtain ⟨uq1, huq1⟩ : ∃ v, (Value.int .u64 (g.l.u : Int)) = v := ⟨_, rfl⟩
  obtain ⟨uq2, huq2⟩ : ∃ v, (Value.string g.l.p) = v := ⟨_, rfl⟩
  obtain ⟨uq3, huq3⟩ : ∃ v, (Value.string g.l.t) = v := ⟨_, rfl⟩
  obtain ⟨uq4, huq4⟩ : ∃ v, (Value.string g.l.b) = v := ⟨_, rfl⟩
  obtain ⟨uq5, huq5⟩ : ∃ v, (Value.string g.l.ea) = v := ⟨_, rfl⟩
  obtain ⟨uq6, huq6⟩ : ∃ v, (Value.string g.l.ra) = v := ⟨_, rfl⟩
  obtain ⟨uq7, huq7⟩ : ∃ v, (Value.int .u64 (g.l.m : Int)) = v := ⟨_, rfl⟩
  obtain ⟨uq8, huq8⟩ : ∃ v, (Value.slice b1 g.l.br.length e1) = v := ⟨_, rfl⟩
  obtain ⟨uq9, huq9⟩ : ∃ v, (Value.slice b2 g.c.ks.length e2) = v := ⟨_, rfl⟩
  obtain ⟨uq10, huq10⟩ : ∃ v, (Value.string g.c.sm) = v := ⟨_, rfl⟩
  obtain ⟨uq11, huq11⟩ : ∃ v, (Value.slice b3 g.nb.length e3) = v := ⟨_, rfl⟩
  obtain ⟨uq12, huq12⟩ : ∃ v, (Value.int .u64 (g.f.s : Int)) = v := ⟨_, rfl⟩
  obtain ⟨uq13, huq13⟩ : ∃ v, (Value.int .u64 (g.f.u : Int)) = v := ⟨_, rfl⟩
  obtain ⟨uq14, huq14⟩ : ∃ v, (Value.string g.f.p) = v := ⟨_, rfl⟩
  obtain ⟨uq15, huq15⟩ : ∃ v, (Value.string g.f.t) = v := ⟨_, rfl⟩
  obtain ⟨uq16, huq16⟩ : ∃ v, (Value.string g.f.b) = v := ⟨_, rfl⟩
  obtain ⟨uq17, huq17⟩ : ∃ v, (Value.string g.f.ea) = v := ⟨_, rfl⟩
  obtain ⟨uq18, huq18⟩ : ∃ v, (Value.string g.f.ra) = v := ⟨_, rfl⟩
  obtain ⟨uq19, huq19⟩ : ∃ v, (Value.int .u64 (g.f.m : Int)) = v := ⟨_, rfl⟩
  obtain ⟨uq20, huq20⟩ : ∃ v, (Value.slice b4 g.f.br.length e4) = v := ⟨_, rfl⟩
  obtain ⟨uq21, huq21⟩ : ∃ v, (Value.slice b5 g.fb.length e5) = v := ⟨_, rfl⟩
  obtain ⟨uq22, huq22⟩ : ∃ v, (Value.int .u64 (g.bits : Int)) = v := ⟨_, rfl⟩
  obtain ⟨uq23, huq23⟩ : ∃ v, (Value.string g.sig) = v := ⟨_, rfl⟩
  obtain ⟨uq24, huq24⟩ : ∃ v, (Value.int .u64 (g.slot : Int)) = v := ⟨_, rfl⟩
  rw [hbq0, hbq1, hbq2, hbq3, hbq4, hbq5, hbq6, hbq7, hbq8, hbq9, hbq10, hbq11] at K1
  rw [huq0, huq1, huq2, huq3, huq4, huq5, huq6, huq7, huq8, huq9, huq10, huq11, huq12, huq13, huq14, huq15, huq16, huq17, huq18, huq19, huq20, huq21, huq22, huq23, huq24] at K3
  rw [hbq0, hbq1, hbq2, hbq3, hbq4, hbq5, hbq6, hbq7, hbq8, hbq9, hbq10, hbq11, huq0, huq1, huq2, huq3, huq4, huq5, huq6, huq7, huq8, huq9, huq10, huq11, huq12, huq13, huq14, huq15, huq16, huq17, huq18, huq19, huq20, huq21, huq22, huq23, huq24]
  have HQB : Hid (_ ∧ _ ∧ _ ∧ _ ∧ _ ∧ _ ∧ _ ∧ _ ∧ _ ∧ _ ∧ _ ∧ _) := ⟨hbq0, hbq1, hbq2, hbq3, hbq4, hbq5, hbq6, hbq7, hbq8, hbq9, hbq10, hbq11⟩
  have HQU : Hid (_ ∧ _ ∧ _ ∧ _ ∧ _ ∧ _ ∧ _ ∧ _ ∧ _ ∧ _ ∧ _ ∧ _ ∧ _ ∧ _ ∧ _ ∧ _ ∧ _ ∧ _ ∧ _ ∧ _ ∧ _ ∧ _ ∧ _ ∧ _ ∧ _) := ⟨huq0, huq1, huq2, huq3, huq4, huq5, huq6, huq7, huq8, huq9, huq10, huq11, huq12, huq13, huq14, huq15, huq16, huq17, huq18, huq19, huq20, huq21, huq22, huq23, huq24⟩
  clear hbq0 hbq1 hbq2 hbq3 hbq4 hbq5 hbq6 hbq7 hbq8 hbq9 hbq10 hbq11 huq0 huq1 huq2 huq3 huq4 huq5 huq6 huq7 huq8 huq9 huq10 huq11 huq12 huq13 huq14 huq15 huq16 huq17 huq18 huq19 huq20 huq21 huq22 huq23 huq24
  have HSB : Hid (_ ∧ _ ∧ _ ∧ _) := ⟨s1, s2, s3, hd⟩
  have HSU : Hid (_ ∧ _ ∧ _ ∧ _ ∧ _ ∧ _) := ⟨r1, r2, r3, r4, r5, (⟨hgl, hgf, hb6, hs6⟩ : g.ok)⟩
  clear s1 s2 s3 r1 r2 r3 r4 r5 hd hgl hgf hb6 hs6 htb htu
  obtain ⟨A0, h0, h1⟩ := two_boxes w (.cells #[bq0, bq1, bq2, bq3, bq4, bq5, bq6, bq7, bq8, bq9, bq10, bq11] 41) (.cells #[uq0, uq1, uq2, uq3, uq4, uq5, uq6, uq7, uq8, uq9, uq10, uq11, uq12, uq13, uq14, uq15, uq16, uq17, uq18, uq19, uq20, uq21, uq22, uq23, uq24] 43)
  obtain ⟨z, hz⟩ : ∃ z, w.heap.size = z := ⟨_, rfl⟩
  have HZ : Hid (w.heap.size = z) := hz
  obtain ⟨w1, hw1⟩ : ∃ W, (w.alloc (.cells #[bq0, bq1, bq2, bq3, bq4, bq5, bq6, bq7, bq8, bq9, bq10, bq11] 41)).alloc (.cells #[uq0, uq1, uq2, uq3, uq4, uq5, uq6, uq7, uq8, uq9, uq10, uq11, uq12, uq13, uq14, uq15, uq16, uq17, uq18, uq19, uq20, uq21, uq22, uq23, uq24] 43) = W := ⟨_, rfl⟩
  have hsz1 : w1.heap.size = z + 2 := by rw [← hw1, ← hz]; simp
  rw [hw1] at A0 h0 h1
  rw [hz] at A0 h0 h1 KS K1 K3
  have cs : ∀ W : World, Below w1.heap.size w1 W → Hid (W.heap[z]? = some (.cells #[bq0, bq1, bq2, bq3, bq4, bq5, bq6, bq7, bq8, bq9, bq10, bq11] 41 (0, 0)) ∧ W.heap[z + 1]? = some (.cells #[uq0, uq1, uq2, uq3, uq4, uq5, uq6, uq7, uq8, uq9, uq10, uq11, uq12, uq13, uq14, uq15, uq16, uq17, uq18, uq19, uq20, uq21, uq22, uq23, uq24] 43 (0, 0))) := fun W hB => ⟨(hB.block z (by omega)).trans h0, (hB.block (z + 1) (by omega)).trans h1⟩
  have HC : Hid _ := cs
  have HX0 : Hid (Below z w w1 ∧ z ≤ w1.heap.size) := ⟨A0, by omega⟩
  clear cs
  go_enter Tryd.func6, Tryd.ntmps6
  clear h0 h1
  have G0 : Below w1.heap.size w1 w1 := Below.refl _ _
  go_wp2_with fail
  first | rw [hw1] | skip
  try rw [hz]
  refine (KS _ (HX0.out.1.trans (G0.mono HX0.out.2))).mono ?_
  rintro e w2 ⟨rfl, B5⟩
  clear hz hw1 A0
  replace G0 := G0.trans (B5.mono G0.size)
  clear B5
  have hgU := (HC.out w2 G0).out.1
  go_wp2_with (refine wpList_load_row rfl 41 _ rfl (z) rfl _ _ _ _ hgU Tryd.underlying41 rfl (by kernel_rfl) ?_)
  refine (K1 _ (HX0.out.1.trans (G0.mono HX0.out.2))).mono ?_
  rintro e w3 ⟨rfl, B5⟩
  replace G0 := G0.trans (B5.mono G0.size)
  clear B5 hgU
  go_wp2_with fail
  refine (bootFrom_any v1 _).mono ?_
  rintro r x2 ⟨B5, d2, f2, pa0, pa1, pa2, pc0, pc1, pc2, hR, rfl, hs0, hs1, hs2⟩
  replace G0 := G0.trans (B5.mono G0.size)
  have HR2 : Hid (_ ∧ _ ∧ _ ∧ _) := ⟨hR, hs0, hs1, hs2⟩
  have HE2 : Hid (∃ q, d2 = q) := ⟨_, rfl⟩
  obtain ⟨pN0, hpN0⟩ : ∃ N, d2.l.br.length = N := ⟨_, rfl⟩
  obtain ⟨pN1, hpN1⟩ : ∃ N, d2.c.ks.length = N := ⟨_, rfl⟩
  obtain ⟨pN2, hpN2⟩ : ∃ N, d2.br.length = N := ⟨_, rfl⟩
  have HN2 : Hid (_ ∧ _ ∧ _) := ⟨hpN0, hpN1, hpN2⟩
  obtain ⟨pf0, hpf0⟩ : ∃ v, d2.l.s = v := ⟨_, rfl⟩
  obtain ⟨pf1, hpf1⟩ : ∃ v, d2.l.u = v := ⟨_, rfl⟩
  obtain ⟨pf2, hpf2⟩ : ∃ v, d2.l.p = v := ⟨_, rfl⟩
  obtain ⟨pf3, hpf3⟩ : ∃ v, d2.l.t = v := ⟨_, rfl⟩
  obtain ⟨pf4, hpf4⟩ : ∃ v, d2.l.b = v := ⟨_, rfl⟩
  obtain ⟨pf5, hpf5⟩ : ∃ v, d2.l.ea = v := ⟨_, rfl⟩
  obtain ⟨pf6, hpf6⟩ : ∃ v, d2.l.ra = v := ⟨_, rfl⟩
  obtain ⟨pf7, hpf7⟩ : ∃ v, d2.l.m = v := ⟨_, rfl⟩
  obtain ⟨pf8, hpf8⟩ : ∃ v, d2.c.sm = v := ⟨_, rfl⟩
  simp only [btC, hpN0, hpN1, hpN2, hpf0, hpf1, hpf2, hpf3, hpf4, hpf5, hpf6, hpf7, hpf8]
  have HF2 : Hid (_ ∧ _ ∧ _ ∧ _ ∧ _ ∧ _ ∧ _ ∧ _ ∧ _) := ⟨hpf0, hpf1, hpf2, hpf3, hpf4, hpf5, hpf6, hpf7, hpf8⟩
  clear hpN0 hpN1 hpN2 hpf0 hpf1 hpf2 hpf3 hpf4 hpf5 hpf6 hpf7 hpf8 hR hs0 hs1 hs2 B5 HE2
  obtain ⟨ux2, hux2⟩ : ∃ W, (x2.alloc (.cells #[Value.int .u64 0, Value.int .u64 0, Value.string ⟨#[]⟩, Value.string ⟨#[]⟩, Value.string ⟨#[]⟩, Value.string ⟨#[]⟩, Value.string ⟨#[]⟩, Value.int .u64 0, Value.slice none 0 0, Value.slice none 0 0, Value.string ⟨#[]⟩, Value.slice none 0 0] 41)).setRow x2.heap.size #[Value.int .u64 (pf0 : Int), Value.int .u64 (pf1 : Int), Value.string pf2, Value.string pf3, Value.string pf4, Value.string pf5, Value.string pf6, Value.int .u64 (pf7 : Int), Value.slice pa0 pN0 pc0, Value.slice pa1 pN1 pc1, Value.string pf8, Value.slice pa2 pN2 pc2] = W := ⟨_, rfl⟩
  have al : Below x2.heap.size x2 ux2 := by rw [← hux2]; exact below_setRow (be_new _ _) (Nat.le_refl _) _
  replace G0 := G0.trans (al.mono G0.size)
  have hb : ux2.heap[x2.heap.size]? = some (.cells #[Value.int .u64 (pf0 : Int), Value.int .u64 (pf1 : Int), Value.string pf2, Value.string pf3, Value.string pf4, Value.string pf5, Value.string pf6, Value.int .u64 (pf7 : Int), Value.slice pa0 pN0 pc0, Value.slice pa1 pN1 pc1, Value.string pf8, Value.slice pa2 pN2 pc2] 41 (0, 0)) := by rw [← hux2]; exact setRow_heap _ _ _ _ _ _ (World.alloc_heap_new _ _)
  have hl1 : x2.heap.size < ux2.heap.size := by rw [← hux2, setRow_size]; simp
  have HB2 : Hid (∀ W : World, Below ux2.heap.size ux2 W → W.heap[x2.heap.size]? = some (.cells #[Value.int .u64 (pf0 : Int), Value.int .u64 (pf1 : Int), Value.string pf2, Value.string pf3, Value.string pf4, Value.string pf5, Value.string pf6, Value.int .u64 (pf7 : Int), Value.slice pa0 pN0 pc0, Value.slice pa1 pN1 pc1, Value.string pf8, Value.slice pa2 pN2 pc2] 41 (0, 0))) := fun W hB => (hB.block _ hl1).trans hb
  have G2 : Below ux2.heap.size ux2 ux2 := Below.refl _ _
  have HA2 : Hid (Below x2.heap.size x2 ux2) := al
  clear hb hl1 al
  have hgU : ((x2.alloc (.cells #[Value.int .u64 0, Value.int .u64 0, Value.string ⟨#[]⟩, Value.string ⟨#[]⟩, Value.string ⟨#[]⟩, Value.string ⟨#[]⟩, Value.string ⟨#[]⟩, Value.int .u64 0, Value.slice none 0 0, Value.slice none 0 0, Value.string ⟨#[]⟩, Value.slice none 0 0] 41)).setRow x2.heap.size #[Value.int .u64 (pf0 : Int), Value.int .u64 (pf1 : Int), Value.string pf2, Value.string pf3, Value.string pf4, Value.string pf5, Value.string pf6, Value.int .u64 (pf7 : Int), Value.slice pa0 pN0 pc0, Value.slice pa1 pN1 pc1, Value.string pf8, Value.slice pa2 pN2 pc2]).heap[z + 1]? = some (.cells #[uq0, uq1, uq2, uq3, uq4, uq5, uq6, uq7, uq8, uq9, uq10, uq11, uq12, uq13, uq14, uq15, uq16, uq17, uq18, uq19, uq20, uq21, uq22, uq23, uq24] 43 (0, 0)) := by rw [hux2]; exact (HC.out ux2 G0).out.2
  go_wp2_with (first | refine store_row0 rfl rfl 41 _ _ rfl x2.heap.size #[Value.int .u64 (pf0 : Int), Value.int .u64 (pf1 : Int), Value.string pf2, Value.string pf3, Value.string pf4, Value.string pf5, Value.string pf6, Value.int .u64 (pf7 : Int), Value.slice pa0 pN0 pc0, Value.slice pa1 pN1 pc1, Value.string pf8, Value.slice pa2 pN2 pc2] (by kernel_rfl) (by kernel_rfl) 41 _ (World.alloc_heap_new _ _) (by kernel_rfl) rfl (by simp [Value.oneCell']) ?_ | refine wpList_load_row rfl 43 _ rfl (z + 1) rfl _ _ _ _ hgU Tryd.underlying43 rfl (by kernel_rfl) ?_)
  first | rw [hux2] | skip
  clear hux2
  generalize (Value.tuple #[Value.agg #[Value.int .u64 (pf0 : Int), Value.int .u64 (pf1 : Int), Value.string pf2, Value.string pf3, Value.string pf4, Value.string pf5, Value.string pf6, Value.int .u64 (pf7 : Int), Value.slice pa0 pN0 pc0, Value.slice pa1 pN1 pc1, Value.string pf8, Value.slice pa2 pN2 pc2], Value.int .i64 f2]) = zt2
  generalize (Value.agg #[Value.int .u64 (pf0 : Int), Value.int .u64 (pf1 : Int), Value.string pf2, Value.string pf3, Value.string pf4, Value.string pf5, Value.string pf6, Value.int .u64 (pf7 : Int), Value.slice pa0 pN0 pc0, Value.slice pa1 pN1 pc1, Value.string pf8, Value.slice pa2 pN2 pc2]) = za2
  refine (K3 _ (HX0.out.1.trans (G0.mono HX0.out.2))).mono ?_
  rintro e w4 ⟨rfl, B5⟩
  replace G0 := G0.trans (B5.mono G0.size)
  replace G2 := G2.trans (B5.mono G2.size)
  clear B5 hgU
  go_wp2_with fail
  refine (from_any v3 _).mono ?_
  rintro r x4 ⟨B5, g4, f4, qa0, qa1, qa2, qa3, qa4, qc0, qc1, qc2, qc3, qc4, hR, rfl, hs0, hs1, hs2, hs3, hs4⟩
  replace G0 := G0.trans (B5.mono G0.size)
  replace G2 := G2.trans (B5.mono G2.size)
  have HR4 : Hid (_ ∧ _ ∧ _ ∧ _ ∧ _ ∧ _) := ⟨hR, hs0, hs1, hs2, hs3, hs4⟩
  have HE4 : Hid (∃ q, g4 = q) := ⟨_, rfl⟩
  obtain ⟨qN0, hqN0⟩ : ∃ N, g4.l.br.length = N := ⟨_, rfl⟩
  obtain ⟨qN1, hqN1⟩ : ∃ N, g4.c.ks.length = N := ⟨_, rfl⟩
  obtain ⟨qN2, hqN2⟩ : ∃ N, g4.nb.length = N := ⟨_, rfl⟩
  obtain ⟨qN3, hqN3⟩ : ∃ N, g4.f.br.length = N := ⟨_, rfl⟩
  obtain ⟨qN4, hqN4⟩ : ∃ N, g4.fb.length = N := ⟨_, rfl⟩
  have HN4 : Hid (_ ∧ _ ∧ _ ∧ _ ∧ _) := ⟨hqN0, hqN1, hqN2, hqN3, hqN4⟩
  obtain ⟨qf0, hqf0⟩ : ∃ v, g4.l.s = v := ⟨_, rfl⟩
  obtain ⟨qf1, hqf1⟩ : ∃ v, g4.l.u = v := ⟨_, rfl⟩
  obtain ⟨qf2, hqf2⟩ : ∃ v, g4.l.p = v := ⟨_, rfl⟩
  obtain ⟨qf3, hqf3⟩ : ∃ v, g4.l.t = v := ⟨_, rfl⟩
  obtain ⟨qf4, hqf4⟩ : ∃ v, g4.l.b = v := ⟨_, rfl⟩
  obtain ⟨qf5, hqf5⟩ : ∃ v, g4.l.ea = v := ⟨_, rfl⟩
  obtain ⟨qf6, hqf6⟩ : ∃ v, g4.l.ra = v := ⟨_, rfl⟩
  obtain ⟨qf7, hqf7⟩ : ∃ v, g4.l.m = v := ⟨_, rfl⟩
  obtain ⟨qf8, hqf8⟩ : ∃ v, g4.c.sm = v := ⟨_, rfl⟩
  obtain ⟨qf9, hqf9⟩ : ∃ v, g4.f.s = v := ⟨_, rfl⟩
  obtain ⟨qf10, hqf10⟩ : ∃ v, g4.f.u = v := ⟨_, rfl⟩
  obtain ⟨qf11, hqf11⟩ : ∃ v, g4.f.p = v := ⟨_, rfl⟩
  obtain ⟨qf12, hqf12⟩ : ∃ v, g4.f.t = v := ⟨_, rfl⟩
  obtain ⟨qf13, hqf13⟩ : ∃ v, g4.f.b = v := ⟨_, rfl⟩
  obtain ⟨qf14, hqf14⟩ : ∃ v, g4.f.ea = v := ⟨_, rfl⟩
  obtain ⟨qf15, hqf15⟩ : ∃ v, g4.f.ra = v := ⟨_, rfl⟩
  obtain ⟨qf16, hqf16⟩ : ∃ v, g4.f.m = v := ⟨_, rfl⟩
  obtain ⟨qf17, hqf17⟩ : ∃ v, g4.bits = v := ⟨_, rfl⟩
  obtain ⟨qf18, hqf18⟩ : ∃ v, g4.sig = v := ⟨_, rfl⟩
  obtain ⟨qf19, hqf19⟩ : ∃ v, g4.slot = v := ⟨_, rfl⟩
  simp only [upC, hqN0, hqN1, hqN2, hqN3, hqN4, hqf0, hqf1, hqf2, hqf3, hqf4, hqf5, hqf6, hqf7, hqf8, hqf9, hqf10, hqf11, hqf12, hqf13, hqf14, hqf15, hqf16, hqf17, hqf18, hqf19]
  have HF4 : Hid (_ ∧ _ ∧ _ ∧ _ ∧ _ ∧ _ ∧ _ ∧ _ ∧ _ ∧ _ ∧ _ ∧ _ ∧ _ ∧ _ ∧ _ ∧ _ ∧ _ ∧ _ ∧ _ ∧ _) := ⟨hqf0, hqf1, hqf2, hqf3, hqf4, hqf5, hqf6, hqf7, hqf8, hqf9, hqf10, hqf11, hqf12, hqf13, hqf14, hqf15, hqf16, hqf17, hqf18, hqf19⟩
  clear hqN0 hqN1 hqN2 hqN3 hqN4 hqf0 hqf1 hqf2 hqf3 hqf4 hqf5 hqf6 hqf7 hqf8 hqf9 hqf10 hqf11 hqf12 hqf13 hqf14 hqf15 hqf16 hqf17 hqf18 hqf19 hR hs0 hs1 hs2 hs3 hs4 B5 HE4
  obtain ⟨ux4, hux4⟩ : ∃ W, (x4.alloc (.cells #[Value.int .u64 0, Value.int .u64 0, Value.string ⟨#[]⟩, Value.string ⟨#[]⟩, Value.string ⟨#[]⟩, Value.string ⟨#[]⟩, Value.string ⟨#[]⟩, Value.int .u64 0, Value.slice none 0 0, Value.slice none 0 0, Value.string ⟨#[]⟩, Value.slice none 0 0, Value.int .u64 0, Value.int .u64 0, Value.string ⟨#[]⟩, Value.string ⟨#[]⟩, Value.string ⟨#[]⟩, Value.string ⟨#[]⟩, Value.string ⟨#[]⟩, Value.int .u64 0, Value.slice none 0 0, Value.slice none 0 0, Value.int .u64 0, Value.string ⟨#[]⟩, Value.int .u64 0] 43)).setRow x4.heap.size #[Value.int .u64 (qf0 : Int), Value.int .u64 (qf1 : Int), Value.string qf2, Value.string qf3, Value.string qf4, Value.string qf5, Value.string qf6, Value.int .u64 (qf7 : Int), Value.slice qa0 qN0 qc0, Value.slice qa1 qN1 qc1, Value.string qf8, Value.slice qa2 qN2 qc2, Value.int .u64 (qf9 : Int), Value.int .u64 (qf10 : Int), Value.string qf11, Value.string qf12, Value.string qf13, Value.string qf14, Value.string qf15, Value.int .u64 (qf16 : Int), Value.slice qa3 qN3 qc3, Value.slice qa4 qN4 qc4, Value.int .u64 (qf17 : Int), Value.string qf18, Value.int .u64 (qf19 : Int)] = W := ⟨_, rfl⟩
  have al : Below x4.heap.size x4 ux4 := by rw [← hux4]; exact below_setRow (be_new _ _) (Nat.le_refl _) _
  replace G0 := G0.trans (al.mono G0.size)
  replace G2 := G2.trans (al.mono G2.size)
  have hb : ux4.heap[x4.heap.size]? = some (.cells #[Value.int .u64 (qf0 : Int), Value.int .u64 (qf1 : Int), Value.string qf2, Value.string qf3, Value.string qf4, Value.string qf5, Value.string qf6, Value.int .u64 (qf7 : Int), Value.slice qa0 qN0 qc0, Value.slice qa1 qN1 qc1, Value.string qf8, Value.slice qa2 qN2 qc2, Value.int .u64 (qf9 : Int), Value.int .u64 (qf10 : Int), Value.string qf11, Value.string qf12, Value.string qf13, Value.string qf14, Value.string qf15, Value.int .u64 (qf16 : Int), Value.slice qa3 qN3 qc3, Value.slice qa4 qN4 qc4, Value.int .u64 (qf17 : Int), Value.string qf18, Value.int .u64 (qf19 : Int)] 43 (0, 0)) := by rw [← hux4]; exact setRow_heap _ _ _ _ _ _ (World.alloc_heap_new _ _)
  have hl1 : x4.heap.size < ux4.heap.size := by rw [← hux4, setRow_size]; simp
  have HB4 : Hid (∀ W : World, Below ux4.heap.size ux4 W → W.heap[x4.heap.size]? = some (.cells #[Value.int .u64 (qf0 : Int), Value.int .u64 (qf1 : Int), Value.string qf2, Value.string qf3, Value.string qf4, Value.string qf5, Value.string qf6, Value.int .u64 (qf7 : Int), Value.slice qa0 qN0 qc0, Value.slice qa1 qN1 qc1, Value.string qf8, Value.slice qa2 qN2 qc2, Value.int .u64 (qf9 : Int), Value.int .u64 (qf10 : Int), Value.string qf11, Value.string qf12, Value.string qf13, Value.string qf14, Value.string qf15, Value.int .u64 (qf16 : Int), Value.slice qa3 qN3 qc3, Value.slice qa4 qN4 qc4, Value.int .u64 (qf17 : Int), Value.string qf18, Value.int .u64 (qf19 : Int)] 43 (0, 0))) := fun W hB => (hB.block _ hl1).trans hb
  have G4 : Below ux4.heap.size ux4 ux4 := Below.refl _ _
  have HA4 : Hid (Below x4.heap.size x4 ux4) := al
  clear hb hl1 al
  go_wp2_with (refine store_row0 rfl rfl 43 _ _ rfl x4.heap.size #[Value.int .u64 (qf0 : Int), Value.int .u64 (qf1 : Int), Value.string qf2, Value.string qf3, Value.string qf4, Value.string qf5, Value.string qf6, Value.int .u64 (qf7 : Int), Value.slice qa0 qN0 qc0, Value.slice qa1 qN1 qc1, Value.string qf8, Value.slice qa2 qN2 qc2, Value.int .u64 (qf9 : Int), Value.int .u64 (qf10 : Int), Value.string qf11, Value.string qf12, Value.string qf13, Value.string qf14, Value.string qf15, Value.int .u64 (qf16 : Int), Value.slice qa3 qN3 qc3, Value.slice qa4 qN4 qc4, Value.int .u64 (qf17 : Int), Value.string qf18, Value.int .u64 (qf19 : Int)] (by kernel_rfl) (by kernel_rfl) 43 _ (World.alloc_heap_new _ _) (by kernel_rfl) rfl (by simp [Value.oneCell']) ?_)
  first | rw [hux4] | skip
  clear hux4
  generalize (Value.tuple #[Value.agg #[Value.int .u64 (qf0 : Int), Value.int .u64 (qf1 : Int), Value.string qf2, Value.string qf3, Value.string qf4, Value.string qf5, Value.string qf6, Value.int .u64 (qf7 : Int), Value.slice qa0 qN0 qc0, Value.slice qa1 qN1 qc1, Value.string qf8, Value.slice qa2 qN2 qc2, Value.int .u64 (qf9 : Int), Value.int .u64 (qf10 : Int), Value.string qf11, Value.string qf12, Value.string qf13, Value.string qf14, Value.string qf15, Value.int .u64 (qf16 : Int), Value.slice qa3 qN3 qc3, Value.slice qa4 qN4 qc4, Value.int .u64 (qf17 : Int), Value.string qf18, Value.int .u64 (qf19 : Int)], Value.int .i64 f4]) = zt4
  generalize (Value.agg #[Value.int .u64 (qf0 : Int), Value.int .u64 (qf1 : Int), Value.string qf2, Value.string qf3, Value.string qf4, Value.string qf5, Value.string qf6, Value.int .u64 (qf7 : Int), Value.slice qa0 qN0 qc0, Value.slice qa1 qN1 qc1, Value.string qf8, Value.slice qa2 qN2 qc2, Value.int .u64 (qf9 : Int), Value.int .u64 (qf10 : Int), Value.string qf11, Value.string qf12, Value.string qf13, Value.string qf14, Value.string qf15, Value.int .u64 (qf16 : Int), Value.slice qa3 qN3 qc3, Value.slice qa4 qN4 qc4, Value.int .u64 (qf17 : Int), Value.string qf18, Value.int .u64 (qf19 : Int)]) = za4
  refine (from_any s _).mono ?_
  rintro r x5 ⟨B5, g5, f5, ya0, ya1, ya2, ya3, ya4, yc0, yc1, yc2, yc3, yc4, hR, rfl, hs0, hs1, hs2, hs3, hs4⟩
  replace G0 := G0.trans (B5.mono G0.size)
  replace G2 := G2.trans (B5.mono G2.size)
  replace G4 := G4.trans (B5.mono G4.size)
  have HR5 : Hid (_ ∧ _ ∧ _ ∧ _ ∧ _ ∧ _) := ⟨hR, hs0, hs1, hs2, hs3, hs4⟩
  have HE5 : Hid (∃ q, g5 = q) := ⟨_, rfl⟩
  obtain ⟨yN0, hyN0⟩ : ∃ N, g5.l.br.length = N := ⟨_, rfl⟩
  obtain ⟨yN1, hyN1⟩ : ∃ N, g5.c.ks.length = N := ⟨_, rfl⟩
  obtain ⟨yN2, hyN2⟩ : ∃ N, g5.nb.length = N := ⟨_, rfl⟩
  obtain ⟨yN3, hyN3⟩ : ∃ N, g5.f.br.length = N := ⟨_, rfl⟩
  obtain ⟨yN4, hyN4⟩ : ∃ N, g5.fb.length = N := ⟨_, rfl⟩
  have HN5 : Hid (_ ∧ _ ∧ _ ∧ _ ∧ _) := ⟨hyN0, hyN1, hyN2, hyN3, hyN4⟩
  obtain ⟨yf0, hyf0⟩ : ∃ v, g5.l.s = v := ⟨_, rfl⟩
  obtain ⟨yf1, hyf1⟩ : ∃ v, g5.l.u = v := ⟨_, rfl⟩
  obtain ⟨yf2, hyf2⟩ : ∃ v, g5.l.p = v := ⟨_, rfl⟩
  obtain ⟨yf3, hyf3⟩ : ∃ v, g5.l.t = v := ⟨_, rfl⟩
  obtain ⟨yf4, hyf4⟩ : ∃ v, g5.l.b = v := ⟨_, rfl⟩
  obtain ⟨yf5, hyf5⟩ : ∃ v, g5.l.ea = v := ⟨_, rfl⟩
  obtain ⟨yf6, hyf6⟩ : ∃ v, g5.l.ra = v := ⟨_, rfl⟩
  obtain ⟨yf7, hyf7⟩ : ∃ v, g5.l.m = v := ⟨_, rfl⟩
  obtain ⟨yf8, hyf8⟩ : ∃ v, g5.c.sm = v := ⟨_, rfl⟩
  obtain ⟨yf9, hyf9⟩ : ∃ v, g5.f.s = v := ⟨_, rfl⟩
  obtain ⟨yf10, hyf10⟩ : ∃ v, g5.f.u = v := ⟨_, rfl⟩
  obtain ⟨yf11, hyf11⟩ : ∃ v, g5.f.p = v := ⟨_, rfl⟩
  obtain ⟨yf12, hyf12⟩ : ∃ v, g5.f.t = v := ⟨_, rfl⟩
  obtain ⟨yf13, hyf13⟩ : ∃ v, g5.f.b = v := ⟨_, rfl⟩
  obtain ⟨yf14, hyf14⟩ : ∃ v, g5.f.ea = v := ⟨_, rfl⟩
  obtain ⟨yf15, hyf15⟩ : ∃ v, g5.f.ra = v := ⟨_, rfl⟩
  obtain ⟨yf16, hyf16⟩ : ∃ v, g5.f.m = v := ⟨_, rfl⟩
  obtain ⟨yf17, hyf17⟩ : ∃ v, g5.bits = v := ⟨_, rfl⟩
  obtain ⟨yf18, hyf18⟩ : ∃ v, g5.sig = v := ⟨_, rfl⟩
  obtain ⟨yf19, hyf19⟩ : ∃ v, g5.slot = v := ⟨_, rfl⟩
  simp only [upC, hyN0, hyN1, hyN2, hyN3, hyN4, hyf0, hyf1, hyf2, hyf3, hyf4, hyf5, hyf6, hyf7, hyf8, hyf9, hyf10, hyf11, hyf12, hyf13, hyf14, hyf15, hyf16, hyf17, hyf18, hyf19]
  have HF5 : Hid (_ ∧ _ ∧ _ ∧ _ ∧ _ ∧ _ ∧ _ ∧ _ ∧ _ ∧ _ ∧ _ ∧ _ ∧ _ ∧ _ ∧ _ ∧ _ ∧ _ ∧ _ ∧ _ ∧ _) := ⟨hyf0, hyf1, hyf2, hyf3, hyf4, hyf5, hyf6, hyf7, hyf8, hyf9, hyf10, hyf11, hyf12, hyf13, hyf14, hyf15, hyf16, hyf17, hyf18, hyf19⟩
  clear hyN0 hyN1 hyN2 hyN3 hyN4 hyf0 hyf1 hyf2 hyf3 hyf4 hyf5 hyf6 hyf7 hyf8 hyf9 hyf10 hyf11 hyf12 hyf13 hyf14 hyf15 hyf16 hyf17 hyf18 hyf19 hR hs0 hs1 hs2 hs3 hs4 B5 HE5
  obtain ⟨ux5, hux5⟩ : ∃ W, (x5.alloc (.cells #[Value.int .u64 0, Value.int .u64 0, Value.string ⟨#[]⟩, Value.string ⟨#[]⟩, Value.string ⟨#[]⟩, Value.string ⟨#[]⟩, Value.string ⟨#[]⟩, Value.int .u64 0, Value.slice none 0 0, Value.slice none 0 0, Value.string ⟨#[]⟩, Value.slice none 0 0, Value.int .u64 0, Value.int .u64 0, Value.string ⟨#[]⟩, Value.string ⟨#[]⟩, Value.string ⟨#[]⟩, Value.string ⟨#[]⟩, Value.string ⟨#[]⟩, Value.int .u64 0, Value.slice none 0 0, Value.slice none 0 0, Value.int .u64 0, Value.string ⟨#[]⟩, Value.int .u64 0] 43)).setRow x5.heap.size #[Value.int .u64 (yf0 : Int), Value.int .u64 (yf1 : Int), Value.string yf2, Value.string yf3, Value.string yf4, Value.string yf5, Value.string yf6, Value.int .u64 (yf7 : Int), Value.slice ya0 yN0 yc0, Value.slice ya1 yN1 yc1, Value.string yf8, Value.slice ya2 yN2 yc2, Value.int .u64 (yf9 : Int), Value.int .u64 (yf10 : Int), Value.string yf11, Value.string yf12, Value.string yf13, Value.string yf14, Value.string yf15, Value.int .u64 (yf16 : Int), Value.slice ya3 yN3 yc3, Value.slice ya4 yN4 yc4, Value.int .u64 (yf17 : Int), Value.string yf18, Value.int .u64 (yf19 : Int)] = W := ⟨_, rfl⟩
  have al : Below x5.heap.size x5 ux5 := by rw [← hux5]; exact below_setRow (be_new _ _) (Nat.le_refl _) _
  replace G0 := G0.trans (al.mono G0.size)
  replace G2 := G2.trans (al.mono G2.size)
  replace G4 := G4.trans (al.mono G4.size)
  have hb : ux5.heap[x5.heap.size]? = some (.cells #[Value.int .u64 (yf0 : Int), Value.int .u64 (yf1 : Int), Value.string yf2, Value.string yf3, Value.string yf4, Value.string yf5, Value.string yf6, Value.int .u64 (yf7 : Int), Value.slice ya0 yN0 yc0, Value.slice ya1 yN1 yc1, Value.string yf8, Value.slice ya2 yN2 yc2, Value.int .u64 (yf9 : Int), Value.int .u64 (yf10 : Int), Value.string yf11, Value.string yf12, Value.string yf13, Value.string yf14, Value.string yf15, Value.int .u64 (yf16 : Int), Value.slice ya3 yN3 yc3, Value.slice ya4 yN4 yc4, Value.int .u64 (yf17 : Int), Value.string yf18, Value.int .u64 (yf19 : Int)] 43 (0, 0)) := by rw [← hux5]; exact setRow_heap _ _ _ _ _ _ (World.alloc_heap_new _ _)
  have hl1 : x5.heap.size < ux5.heap.size := by rw [← hux5, setRow_size]; simp
  have HB5 : Hid (∀ W : World, Below ux5.heap.size ux5 W → W.heap[x5.heap.size]? = some (.cells #[Value.int .u64 (yf0 : Int), Value.int .u64 (yf1 : Int), Value.string yf2, Value.string yf3, Value.string yf4, Value.string yf5, Value.string yf6, Value.int .u64 (yf7 : Int), Value.slice ya0 yN0 yc0, Value.slice ya1 yN1 yc1, Value.string yf8, Value.slice ya2 yN2 yc2, Value.int .u64 (yf9 : Int), Value.int .u64 (yf10 : Int), Value.string yf11, Value.string yf12, Value.string yf13, Value.string yf14, Value.string yf15, Value.int .u64 (yf16 : Int), Value.slice ya3 yN3 yc3, Value.slice ya4 yN4 yc4, Value.int .u64 (yf17 : Int), Value.string yf18, Value.int .u64 (yf19 : Int)] 43 (0, 0))) := fun W hB => (hB.block _ hl1).trans hb
  have G5 : Below ux5.heap.size ux5 ux5 := Below.refl _ _
  have HA5 : Hid (Below x5.heap.size x5 ux5) := al
  clear hb hl1 al
  have LV5 : ∀ (a : Option Addr) (ts : List ByteArray), slS x5.heap.size x5 a ts → slS ux5.heap.size ux5 a ts := fun a ts h => by
    have hb := HA5.out
    rcases h with h | ⟨b, o, h1, h2, h3⟩
    · exact .inl h
    · exact .inr ⟨b, o, h1, Nat.lt_of_lt_of_le h2 hb.size, fun j x hx => (hb.cell (p := ⟨b, o + j, none⟩) h2).trans (h3 j x hx)⟩
  obtain ⟨y1, y2, HY, K6⟩ : ∃ (y1 : ByteArray) (y2 : Int), Hid (f5 = 0 → y2 = 0 ∧ y1 = s) ∧ ∀ W : World, Below ux5.heap.size ux5 W → Calls Tryd.prog 20 #[.agg #[Value.int .u64 (yf0 : Int), Value.int .u64 (yf1 : Int), Value.string yf2, Value.string yf3, Value.string yf4, Value.string yf5, Value.string yf6, Value.int .u64 (yf7 : Int), Value.slice ya0 yN0 yc0, Value.slice ya1 yN1 yc1, Value.string yf8, Value.slice ya2 yN2 yc2, Value.int .u64 (yf9 : Int), Value.int .u64 (yf10 : Int), Value.string yf11, Value.string yf12, Value.string yf13, Value.string yf14, Value.string yf15, Value.int .u64 (yf16 : Int), Value.slice ya3 yN3 yc3, Value.slice ya4 yN4 yc4, Value.int .u64 (yf17 : Int), Value.string yf18, Value.int .u64 (yf19 : Int)]] W fun e w' => e = .returned (.tuple #[.string y1, .int .i64 y2]) ∧ Below W.heap.size W w' := by
    obtain ⟨h1, t0, t1, t2, t3, t4⟩ := HR5.out
    obtain ⟨k1, k2, k3⟩ := upR_ok h1
    obtain ⟨rfl, rfl, rfl, rfl, rfl⟩ := HN5.out
    obtain ⟨rfl, rfl, rfl, rfl, rfl, rfl, rfl, rfl, rfl, rfl, rfl, rfl, rfl, rfl, rfl, rfl, rfl, rfl, rfl, rfl⟩ := HF5.out
    refine ⟨eS (upI g5), eE (upI g5), fun h => k3 h, fun W hB => ?_⟩
    exact updBytes_any g5 ya0 ya1 ya2 ya3 ya4 yc0 yc1 yc2 yc3 yc4 k1.1 k1.2.1 k1.2.2.1 k1.2.2.2 k2 ux5.heap.size W hB.size (slS_below hB (LV5 _ _ t0)) (slS_below hB (LV5 _ _ t1)) (slS_below hB (LV5 _ _ t2)) (slS_below hB (LV5 _ _ t3)) (slS_below hB (LV5 _ _ t4))
  clear LV5
  have hgU : ((x5.alloc (.cells #[Value.int .u64 0, Value.int .u64 0, Value.string ⟨#[]⟩, Value.string ⟨#[]⟩, Value.string ⟨#[]⟩, Value.string ⟨#[]⟩, Value.string ⟨#[]⟩, Value.int .u64 0, Value.slice none 0 0, Value.slice none 0 0, Value.string ⟨#[]⟩, Value.slice none 0 0, Value.int .u64 0, Value.int .u64 0, Value.string ⟨#[]⟩, Value.string ⟨#[]⟩, Value.string ⟨#[]⟩, Value.string ⟨#[]⟩, Value.string ⟨#[]⟩, Value.int .u64 0, Value.slice none 0 0, Value.slice none 0 0, Value.int .u64 0, Value.string ⟨#[]⟩, Value.int .u64 0] 43)).setRow x5.heap.size #[Value.int .u64 (yf0 : Int), Value.int .u64 (yf1 : Int), Value.string yf2, Value.string yf3, Value.string yf4, Value.string yf5, Value.string yf6, Value.int .u64 (yf7 : Int), Value.slice ya0 yN0 yc0, Value.slice ya1 yN1 yc1, Value.string yf8, Value.slice ya2 yN2 yc2, Value.int .u64 (yf9 : Int), Value.int .u64 (yf10 : Int), Value.string yf11, Value.string yf12, Value.string yf13, Value.string yf14, Value.string yf15, Value.int .u64 (yf16 : Int), Value.slice ya3 yN3 yc3, Value.slice ya4 yN4 yc4, Value.int .u64 (yf17 : Int), Value.string yf18, Value.int .u64 (yf19 : Int)]).heap[x5.heap.size]? = some (.cells #[Value.int .u64 (yf0 : Int), Value.int .u64 (yf1 : Int), Value.string yf2, Value.string yf3, Value.string yf4, Value.string yf5, Value.string yf6, Value.int .u64 (yf7 : Int), Value.slice ya0 yN0 yc0, Value.slice ya1 yN1 yc1, Value.string yf8, Value.slice ya2 yN2 yc2, Value.int .u64 (yf9 : Int), Value.int .u64 (yf10 : Int), Value.string yf11, Value.string yf12, Value.string yf13, Value.string yf14, Value.string yf15, Value.int .u64 (yf16 : Int), Value.slice ya3 yN3 yc3, Value.slice ya4 yN4 yc4, Value.int .u64 (yf17 : Int), Value.string yf18, Value.int .u64 (yf19 : Int)] 43 (0, 0)) := by rw [hux5]; exact HB5.out ux5 G5
  go_wp2_with (first | refine store_row0 rfl rfl 43 _ _ rfl x5.heap.size #[Value.int .u64 (yf0 : Int), Value.int .u64 (yf1 : Int), Value.string yf2, Value.string yf3, Value.string yf4, Value.string yf5, Value.string yf6, Value.int .u64 (yf7 : Int), Value.slice ya0 yN0 yc0, Value.slice ya1 yN1 yc1, Value.string yf8, Value.slice ya2 yN2 yc2, Value.int .u64 (yf9 : Int), Value.int .u64 (yf10 : Int), Value.string yf11, Value.string yf12, Value.string yf13, Value.string yf14, Value.string yf15, Value.int .u64 (yf16 : Int), Value.slice ya3 yN3 yc3, Value.slice ya4 yN4 yc4, Value.int .u64 (yf17 : Int), Value.string yf18, Value.int .u64 (yf19 : Int)] (by kernel_rfl) (by kernel_rfl) 43 _ (World.alloc_heap_new _ _) (by kernel_rfl) rfl (by simp [Value.oneCell']) ?_ | refine wpList_load_row rfl 43 _ rfl (x5.heap.size) rfl _ _ _ _ hgU Tryd.underlying43 rfl (by kernel_rfl) ?_)
  first | rw [hux5] | skip
  clear hux5
  generalize (Value.tuple #[Value.agg #[Value.int .u64 (yf0 : Int), Value.int .u64 (yf1 : Int), Value.string yf2, Value.string yf3, Value.string yf4, Value.string yf5, Value.string yf6, Value.int .u64 (yf7 : Int), Value.slice ya0 yN0 yc0, Value.slice ya1 yN1 yc1, Value.string yf8, Value.slice ya2 yN2 yc2, Value.int .u64 (yf9 : Int), Value.int .u64 (yf10 : Int), Value.string yf11, Value.string yf12, Value.string yf13, Value.string yf14, Value.string yf15, Value.int .u64 (yf16 : Int), Value.slice ya3 yN3 yc3, Value.slice ya4 yN4 yc4, Value.int .u64 (yf17 : Int), Value.string yf18, Value.int .u64 (yf19 : Int)], Value.int .i64 f5]) = zt5
  generalize (Value.agg #[Value.int .u64 (yf0 : Int), Value.int .u64 (yf1 : Int), Value.string yf2, Value.string yf3, Value.string yf4, Value.string yf5, Value.string yf6, Value.int .u64 (yf7 : Int), Value.slice ya0 yN0 yc0, Value.slice ya1 yN1 yc1, Value.string yf8, Value.slice ya2 yN2 yc2, Value.int .u64 (yf9 : Int), Value.int .u64 (yf10 : Int), Value.string yf11, Value.string yf12, Value.string yf13, Value.string yf14, Value.string yf15, Value.int .u64 (yf16 : Int), Value.slice ya3 yN3 yc3, Value.slice ya4 yN4 yc4, Value.int .u64 (yf17 : Int), Value.string yf18, Value.int .u64 (yf19 : Int)]) = za5 at K6 ⊢
  refine (K6 _ G5).mono ?_
  rintro e w6 ⟨rfl, B5⟩
  replace G0 := G0.trans (B5.mono G0.size)
  replace G2 := G2.trans (B5.mono G2.size)
  replace G4 := G4.trans (B5.mono G4.size)
  replace G5 := G5.trans (B5.mono G5.size)
  clear B5 hgU
  clear K6 HB5 HR5 HN5 HF5 HA5 G5
  go_wp2_with fail
  refine (bootFrom_any s _).mono ?_
  rintro r x7 ⟨B5, d7, f7, ma0, ma1, ma2, mc0, mc1, mc2, hR, rfl, hs0, hs1, hs2⟩
  replace G0 := G0.trans (B5.mono G0.size)
  replace G2 := G2.trans (B5.mono G2.size)
  replace G4 := G4.trans (B5.mono G4.size)
  have HR7 : Hid (_ ∧ _ ∧ _ ∧ _) := ⟨hR, hs0, hs1, hs2⟩
  have HE7 : Hid (∃ q, d7 = q) := ⟨_, rfl⟩
  obtain ⟨mN0, hmN0⟩ : ∃ N, d7.l.br.length = N := ⟨_, rfl⟩
  obtain ⟨mN1, hmN1⟩ : ∃ N, d7.c.ks.length = N := ⟨_, rfl⟩
  obtain ⟨mN2, hmN2⟩ : ∃ N, d7.br.length = N := ⟨_, rfl⟩
  have HN7 : Hid (_ ∧ _ ∧ _) := ⟨hmN0, hmN1, hmN2⟩
  obtain ⟨mf0, hmf0⟩ : ∃ v, d7.l.s = v := ⟨_, rfl⟩
  obtain ⟨mf1, hmf1⟩ : ∃ v, d7.l.u = v := ⟨_, rfl⟩
  obtain ⟨mf2, hmf2⟩ : ∃ v, d7.l.p = v := ⟨_, rfl⟩
  obtain ⟨mf3, hmf3⟩ : ∃ v, d7.l.t = v := ⟨_, rfl⟩
  obtain ⟨mf4, hmf4⟩ : ∃ v, d7.l.b = v := ⟨_, rfl⟩
  obtain ⟨mf5, hmf5⟩ : ∃ v, d7.l.ea = v := ⟨_, rfl⟩
  obtain ⟨mf6, hmf6⟩ : ∃ v, d7.l.ra = v := ⟨_, rfl⟩
  obtain ⟨mf7, hmf7⟩ : ∃ v, d7.l.m = v := ⟨_, rfl⟩
  obtain ⟨mf8, hmf8⟩ : ∃ v, d7.c.sm = v := ⟨_, rfl⟩
  simp only [btC, hmN0, hmN1, hmN2, hmf0, hmf1, hmf2, hmf3, hmf4, hmf5, hmf6, hmf7, hmf8]
  have HF7 : Hid (_ ∧ _ ∧ _ ∧ _ ∧ _ ∧ _ ∧ _ ∧ _ ∧ _) := ⟨hmf0, hmf1, hmf2, hmf3, hmf4, hmf5, hmf6, hmf7, hmf8⟩
  clear hmN0 hmN1 hmN2 hmf0 hmf1 hmf2 hmf3 hmf4 hmf5 hmf6 hmf7 hmf8 hR hs0 hs1 hs2 B5 HE7
  obtain ⟨ux7, hux7⟩ : ∃ W, (x7.alloc (.cells #[Value.int .u64 0, Value.int .u64 0, Value.string ⟨#[]⟩, Value.string ⟨#[]⟩, Value.string ⟨#[]⟩, Value.string ⟨#[]⟩, Value.string ⟨#[]⟩, Value.int .u64 0, Value.slice none 0 0, Value.slice none 0 0, Value.string ⟨#[]⟩, Value.slice none 0 0] 41)).setRow x7.heap.size #[Value.int .u64 (mf0 : Int), Value.int .u64 (mf1 : Int), Value.string mf2, Value.string mf3, Value.string mf4, Value.string mf5, Value.string mf6, Value.int .u64 (mf7 : Int), Value.slice ma0 mN0 mc0, Value.slice ma1 mN1 mc1, Value.string mf8, Value.slice ma2 mN2 mc2] = W := ⟨_, rfl⟩
  have al : Below x7.heap.size x7 ux7 := by rw [← hux7]; exact below_setRow (be_new _ _) (Nat.le_refl _) _
  replace G0 := G0.trans (al.mono G0.size)
  replace G2 := G2.trans (al.mono G2.size)
  replace G4 := G4.trans (al.mono G4.size)
  have hb : ux7.heap[x7.heap.size]? = some (.cells #[Value.int .u64 (mf0 : Int), Value.int .u64 (mf1 : Int), Value.string mf2, Value.string mf3, Value.string mf4, Value.string mf5, Value.string mf6, Value.int .u64 (mf7 : Int), Value.slice ma0 mN0 mc0, Value.slice ma1 mN1 mc1, Value.string mf8, Value.slice ma2 mN2 mc2] 41 (0, 0)) := by rw [← hux7]; exact setRow_heap _ _ _ _ _ _ (World.alloc_heap_new _ _)
  have hl1 : x7.heap.size < ux7.heap.size := by rw [← hux7, setRow_size]; simp
  have HB7 : Hid (∀ W : World, Below ux7.heap.size ux7 W → W.heap[x7.heap.size]? = some (.cells #[Value.int .u64 (mf0 : Int), Value.int .u64 (mf1 : Int), Value.string mf2, Value.string mf3, Value.string mf4, Value.string mf5, Value.string mf6, Value.int .u64 (mf7 : Int), Value.slice ma0 mN0 mc0, Value.slice ma1 mN1 mc1, Value.string mf8, Value.slice ma2 mN2 mc2] 41 (0, 0))) := fun W hB => (hB.block _ hl1).trans hb
  have G7 : Below ux7.heap.size ux7 ux7 := Below.refl _ _
  have HA7 : Hid (Below x7.heap.size x7 ux7) := al
  clear hb hl1 al
  have LV7 : ∀ (a : Option Addr) (ts : List ByteArray), slS x7.heap.size x7 a ts → slS ux7.heap.size ux7 a ts := fun a ts h => by
    have hb := HA7.out
    rcases h with h | ⟨b, o, h1, h2, h3⟩
    · exact .inl h
    · exact .inr ⟨b, o, h1, Nat.lt_of_lt_of_le h2 hb.size, fun j x hx => (hb.cell (p := ⟨b, o + j, none⟩) h2).trans (h3 j x hx)⟩
  obtain ⟨m1, m2, HM, K8⟩ : ∃ (y1 : ByteArray) (y2 : Int), Hid (f7 = 0 → y2 = 0 ∧ y1 = s) ∧ ∀ W : World, Below ux7.heap.size ux7 W → Calls Tryd.prog 18 #[.agg #[Value.int .u64 (mf0 : Int), Value.int .u64 (mf1 : Int), Value.string mf2, Value.string mf3, Value.string mf4, Value.string mf5, Value.string mf6, Value.int .u64 (mf7 : Int), Value.slice ma0 mN0 mc0, Value.slice ma1 mN1 mc1, Value.string mf8, Value.slice ma2 mN2 mc2]] W fun e w' => e = .returned (.tuple #[.string y1, .int .i64 y2]) ∧ Below W.heap.size W w' := by
    obtain ⟨h1, t0, t1, t2⟩ := HR7.out
    obtain ⟨k1, k2, k3⟩ := btR_ok h1
    obtain ⟨rfl, rfl, rfl⟩ := HN7.out
    obtain ⟨rfl, rfl, rfl, rfl, rfl, rfl, rfl, rfl, rfl⟩ := HF7.out
    refine ⟨eS (btI d7), eE (btI d7), fun h => k3 h, fun W hB => ?_⟩
    exact bootBytes_any d7 ma0 ma1 ma2 mc0 mc1 mc2 k1 k2 ux7.heap.size W hB.size (slS_below hB (LV7 _ _ t0)) (slS_below hB (LV7 _ _ t1)) (slS_below hB (LV7 _ _ t2))
  clear LV7
  have hgU : ((x7.alloc (.cells #[Value.int .u64 0, Value.int .u64 0, Value.string ⟨#[]⟩, Value.string ⟨#[]⟩, Value.string ⟨#[]⟩, Value.string ⟨#[]⟩, Value.string ⟨#[]⟩, Value.int .u64 0, Value.slice none 0 0, Value.slice none 0 0, Value.string ⟨#[]⟩, Value.slice none 0 0] 41)).setRow x7.heap.size #[Value.int .u64 (mf0 : Int), Value.int .u64 (mf1 : Int), Value.string mf2, Value.string mf3, Value.string mf4, Value.string mf5, Value.string mf6, Value.int .u64 (mf7 : Int), Value.slice ma0 mN0 mc0, Value.slice ma1 mN1 mc1, Value.string mf8, Value.slice ma2 mN2 mc2]).heap[x7.heap.size]? = some (.cells #[Value.int .u64 (mf0 : Int), Value.int .u64 (mf1 : Int), Value.string mf2, Value.string mf3, Value.string mf4, Value.string mf5, Value.string mf6, Value.int .u64 (mf7 : Int), Value.slice ma0 mN0 mc0, Value.slice ma1 mN1 mc1, Value.string mf8, Value.slice ma2 mN2 mc2] 41 (0, 0)) := by rw [hux7]; exact HB7.out ux7 G7
  go_wp2_with (first | refine store_row0 rfl rfl 41 _ _ rfl x7.heap.size #[Value.int .u64 (mf0 : Int), Value.int .u64 (mf1 : Int), Value.string mf2, Value.string mf3, Value.string mf4, Value.string mf5, Value.string mf6, Value.int .u64 (mf7 : Int), Value.slice ma0 mN0 mc0, Value.slice ma1 mN1 mc1, Value.string mf8, Value.slice ma2 mN2 mc2] (by kernel_rfl) (by kernel_rfl) 41 _ (World.alloc_heap_new _ _) (by kernel_rfl) rfl (by simp [Value.oneCell']) ?_ | refine wpList_load_row rfl 41 _ rfl (x7.heap.size) rfl _ _ _ _ hgU Tryd.underlying41 rfl (by kernel_rfl) ?_)
  first | rw [hux7] | skip
  clear hux7
  generalize (Value.tuple #[Value.agg #[Value.int .u64 (mf0 : Int), Value.int .u64 (mf1 : Int), Value.string mf2, Value.string mf3, Value.string mf4, Value.string mf5, Value.string mf6, Value.int .u64 (mf7 : Int), Value.slice ma0 mN0 mc0, Value.slice ma1 mN1 mc1, Value.string mf8, Value.slice ma2 mN2 mc2], Value.int .i64 f7]) = zt7
  generalize (Value.agg #[Value.int .u64 (mf0 : Int), Value.int .u64 (mf1 : Int), Value.string mf2, Value.string mf3, Value.string mf4, Value.string mf5, Value.string mf6, Value.int .u64 (mf7 : Int), Value.slice ma0 mN0 mc0, Value.slice ma1 mN1 mc1, Value.string mf8, Value.slice ma2 mN2 mc2]) = za7 at K8 ⊢
  refine (K8 _ G7).mono ?_
  rintro e w8 ⟨rfl, B5⟩
  replace G0 := G0.trans (B5.mono G0.size)
  replace G2 := G2.trans (B5.mono G2.size)
  replace G4 := G4.trans (B5.mono G4.size)
  replace G7 := G7.trans (B5.mono G7.size)
  clear B5 hgU
  clear K8 HB7 HR7 HN7 HF7 HA7 G7
  have LV : ∀ (v V : World) (a : Option Addr) (ts : List ByteArray), slS v.heap.size v a ts → Below v.heap.size v V → slS V.heap.size V a ts := fun v V a ts h hb => by
    rcases h with h | ⟨b, o, h1, h2, h3⟩
    · exact .inl h
    · exact .inr ⟨b, o, h1, Nat.lt_of_lt_of_le h2 hb.size, fun j x hx => (hb.cell (p := ⟨b, o + j, none⟩) h2).trans (h3 j x hx)⟩
  have W8 : Below z w w8 := HX0.out.1.trans (G0.mono HX0.out.2)
  have W8s : z ≤ w8.heap.size := Nat.le_trans HX0.out.2 G0.size
  have KB : v2 = 0 → f2 = 0 ∧ ∀ W : World, Below w8.heap.size w8 W → Calls Tryd.prog 26 #[.agg #[bq0, bq1, bq2, bq3, bq4, bq5, bq6, bq7, bq8, bq9, bq10, bq11], .agg #[Value.int .u64 (pf0 : Int), Value.int .u64 (pf1 : Int), Value.string pf2, Value.string pf3, Value.string pf4, Value.string pf5, Value.string pf6, Value.int .u64 (pf7 : Int), Value.slice pa0 pN0 pc0, Value.slice pa1 pN1 pc1, Value.string pf8, Value.slice pa2 pN2 pc2]] W fun r w' => r = .returned (.bool true) ∧ Below W.heap.size W w' := fun hv => by
    obtain ⟨h1, s0, s1, s2⟩ := HR2.out
    obtain ⟨t0, t1, t2, hd⟩ := HSB.out
    have Q1 := HA2.out.trans (G2.mono HA2.out.size)
    have Q0 : Below w.heap.size w w8 := by rw [HZ.out]; exact W8
    obtain ⟨hv1, hv2⟩ := HVB.out
    have hlen := bt_len6 h1
    rw [← hv1] at h1
    obtain ⟨rfl, hf⟩ := btR_enc hd (by rw [hv2, hv]) h1
    refine ⟨hf, fun W hB => ?_⟩
    obtain ⟨rfl, rfl, rfl⟩ := HN2.out
    obtain ⟨rfl, rfl, rfl, rfl, rfl, rfl, rfl, rfl, rfl⟩ := HF2.out
    obtain ⟨rfl, rfl, rfl, rfl, rfl, rfl, rfl, rfl, rfl, rfl, rfl, rfl⟩ := HQB.out
    exact sameBoot_any _ a1 a2 a3 pa0 pa1 pa2 c1 c2 c3 pc0 pc1 pc2 w8.heap.size hlen W hB.size (slS_below hB (LV _ _ _ _ t0 Q0)) (slS_below hB (LV _ _ _ _ s0 Q1)) (slS_below hB (LV _ _ _ _ t1 Q0)) (slS_below hB (LV _ _ _ _ s1 Q1)) (slS_below hB (LV _ _ _ _ t2 Q0)) (slS_below hB (LV _ _ _ _ s2 Q1))
  have KU : v4 = 0 → f4 = 0 ∧ ∀ W : World, Below w8.heap.size w8 W → Calls Tryd.prog 27 #[.agg #[uq0, uq1, uq2, uq3, uq4, uq5, uq6, uq7, uq8, uq9, uq10, uq11, uq12, uq13, uq14, uq15, uq16, uq17, uq18, uq19, uq20, uq21, uq22, uq23, uq24], .agg #[Value.int .u64 (qf0 : Int), Value.int .u64 (qf1 : Int), Value.string qf2, Value.string qf3, Value.string qf4, Value.string qf5, Value.string qf6, Value.int .u64 (qf7 : Int), Value.slice qa0 qN0 qc0, Value.slice qa1 qN1 qc1, Value.string qf8, Value.slice qa2 qN2 qc2, Value.int .u64 (qf9 : Int), Value.int .u64 (qf10 : Int), Value.string qf11, Value.string qf12, Value.string qf13, Value.string qf14, Value.string qf15, Value.int .u64 (qf16 : Int), Value.slice qa3 qN3 qc3, Value.slice qa4 qN4 qc4, Value.int .u64 (qf17 : Int), Value.string qf18, Value.int .u64 (qf19 : Int)]] W fun r w' => r = .returned (.bool true) ∧ Below W.heap.size W w' := fun hv => by
    obtain ⟨h1, s0, s1, s2, s3, s4⟩ := HR4.out
    obtain ⟨t0, t1, t2, t3, t4, hd⟩ := HSU.out
    have Q1 := HA4.out.trans (G4.mono HA4.out.size)
    have Q0 : Below w.heap.size w w8 := by rw [HZ.out]; exact W8
    obtain ⟨hv1, hv2⟩ := HVU.out
    have hlen := up_len6 h1
    rw [← hv1] at h1
    obtain ⟨rfl, hf⟩ := upR_enc hd (by rw [hv2, hv]) h1
    refine ⟨hf, fun W hB => ?_⟩
    obtain ⟨rfl, rfl, rfl, rfl, rfl⟩ := HN4.out
    obtain ⟨rfl, rfl, rfl, rfl, rfl, rfl, rfl, rfl, rfl, rfl, rfl, rfl, rfl, rfl, rfl, rfl, rfl, rfl, rfl, rfl⟩ := HF4.out
    obtain ⟨rfl, rfl, rfl, rfl, rfl, rfl, rfl, rfl, rfl, rfl, rfl, rfl, rfl, rfl, rfl, rfl, rfl, rfl, rfl, rfl, rfl, rfl, rfl, rfl, rfl⟩ := HQU.out
    exact sameUpd_any _ b1 b2 b3 b4 b5 qa0 qa1 qa2 qa3 qa4 e1 e2 e3 e4 e5 qc0 qc1 qc2 qc3 qc4 w8.heap.size hlen W hB.size (slS_below hB (LV _ _ _ _ t0 Q0)) (slS_below hB (LV _ _ _ _ s0 Q1)) (slS_below hB (LV _ _ _ _ t1 Q0)) (slS_below hB (LV _ _ _ _ s1 Q1)) (slS_below hB (LV _ _ _ _ t2 Q0)) (slS_below hB (LV _ _ _ _ s2 Q1)) (slS_below hB (LV _ _ _ _ t3 Q0)) (slS_below hB (LV _ _ _ _ s3 Q1)) (slS_below hB (LV _ _ _ _ t4 Q0)) (slS_below hB (LV _ _ _ _ s4 Q1))
  have gA := (HC.out w8 G0).out.1
  have gB := HB2.out w8 G2
  have HG : Hid (∀ W : World, Below w8.heap.size w8 W → W.heap[z + 1]? = some (.cells #[uq0, uq1, uq2, uq3, uq4, uq5, uq6, uq7, uq8, uq9, uq10, uq11, uq12, uq13, uq14, uq15, uq16, uq17, uq18, uq19, uq20, uq21, uq22, uq23, uq24] 43 (0, 0)) ∧ W.heap[x4.heap.size]? = some (.cells #[Value.int .u64 (qf0 : Int), Value.int .u64 (qf1 : Int), Value.string qf2, Value.string qf3, Value.string qf4, Value.string qf5, Value.string qf6, Value.int .u64 (qf7 : Int), Value.slice qa0 qN0 qc0, Value.slice qa1 qN1 qc1, Value.string qf8, Value.slice qa2 qN2 qc2, Value.int .u64 (qf9 : Int), Value.int .u64 (qf10 : Int), Value.string qf11, Value.string qf12, Value.string qf13, Value.string qf14, Value.string qf15, Value.int .u64 (qf16 : Int), Value.slice qa3 qN3 qc3, Value.slice qa4 qN4 qc4, Value.int .u64 (qf17 : Int), Value.string qf18, Value.int .u64 (qf19 : Int)] 43 (0, 0))) := fun W hB => ⟨(HC.out W (G0.trans (hB.mono G0.size))).out.2, HB4.out W (G4.trans (hB.mono G4.size))⟩
  have HW : Hid (Below z w w8 ∧ z ≤ w8.heap.size) := ⟨W8, W8s⟩
  clear G0 G2 G4 LV HR2 HR4 HN2 HN4 HF2 HF4 HQB HQU HVB HVU HSB HSU HA2 HA4 HC HB2 HB4 HX0 W8 W8s
  have HKU : Hid _ := KU
  clear KU
  rcases Decidable.em (v2 = 0) with hv | hv
  · obtain ⟨hf, K⟩ := KB hv
    subst hv hf
    have KA := K w8 (Below.refl _ _)
    clear K KB
    go_wp2_with (first | refine load_wanted (by kernel_rfl) 41 (.tmp 3) rfl z (by kernel_rfl) _ _ _ _ gA Tryd.underlying41 rfl (by kernel_rfl) ?_ | refine load_wanted (by kernel_rfl) 41 (.tmp 10) rfl x2.heap.size (by kernel_rfl) _ _ _ _ gB Tryd.underlying41 rfl (by kernel_rfl) ?_)
    refine KA.mono ?_
    rintro r w9 ⟨rfl, B9⟩
    have H9 : Hid _ := B9
    clear gA gB KA B9
    rcases Decidable.em (v4 = 0) with hv | hv
    · obtain ⟨hf, K⟩ := HKU.out hv
      subst hv hf
      have KA := K w9 H9.out
      have gC := (HG.out w9 H9.out).1
      have gD := (HG.out w9 H9.out).2
      clear K HKU HG
      go_wp2_with (first | refine load_wanted (by kernel_rfl) 43 (.tmp 4) rfl (z + 1) (by kernel_rfl) _ _ _ _ gC Tryd.underlying43 rfl (by kernel_rfl) ?_ | refine load_wanted (by kernel_rfl) 43 (.tmp 14) rfl x4.heap.size (by kernel_rfl) _ _ _ _ gD Tryd.underlying43 rfl (by kernel_rfl) ?_)
      refine KA.mono ?_
      rintro r w10 ⟨rfl, B10⟩
      have HB10 : Hid _ := B10
      clear gC gD KA B10
      have HE : Hid (Below z w w10) := (HW.out.1.trans ((H9.out).mono HW.out.2)).trans (HB10.out.mono (Nat.le_trans HW.out.2 (H9.out).size))
      rcases Decidable.em (f5 = 0) with h5 | h5
      · obtain ⟨y5, y6⟩ := HY.out h5
        subst h5 y5 y6
        rcases Decidable.em (f7 = 0) with h7 | h7
        · obtain ⟨y7, y8⟩ := HM.out h7
          subst h7 y7 y8
          (go_wp2; go_ret; rw [HZ.out]; exact ⟨by simp_all, HE.out⟩)
        · (go_wp2; go_ret; rw [HZ.out]; exact ⟨by simp_all, HE.out⟩)
      · rcases Decidable.em (f7 = 0) with h7 | h7
        · obtain ⟨y7, y8⟩ := HM.out h7
          subst h7 y7 y8
          (go_wp2; go_ret; rw [HZ.out]; exact ⟨by simp_all, HE.out⟩)
        · (go_wp2; go_ret; rw [HZ.out]; exact ⟨by simp_all, HE.out⟩)
    · clear HKU HG
      have HE : Hid (Below z w w9) := HW.out.1.trans ((H9.out).mono HW.out.2)
      rcases Decidable.em (f5 = 0) with h5 | h5
      · obtain ⟨y5, y6⟩ := HY.out h5
        subst h5 y5 y6
        rcases Decidable.em (f7 = 0) with h7 | h7
        · obtain ⟨y7, y8⟩ := HM.out h7
          subst h7 y7 y8
          (go_wp2; go_ret; rw [HZ.out]; exact ⟨by simp_all, HE.out⟩)
        · (go_wp2; go_ret; rw [HZ.out]; exact ⟨by simp_all, HE.out⟩)
      · rcases Decidable.em (f7 = 0) with h7 | h7
        · obtain ⟨y7, y8⟩ := HM.out h7
          subst h7 y7 y8
          (go_wp2; go_ret; rw [HZ.out]; exact ⟨by simp_all, HE.out⟩)
        · (go_wp2; go_ret; rw [HZ.out]; exact ⟨by simp_all, HE.out⟩)
  · clear KB gA gB
    rcases Decidable.em (v4 = 0) with hv | hv
    · obtain ⟨hf, K⟩ := HKU.out hv
      subst hv hf
      have KA := K w8 (Below.refl w8.heap.size w8)
      have gC := (HG.out w8 (Below.refl w8.heap.size w8)).1
      have gD := (HG.out w8 (Below.refl w8.heap.size w8)).2
      clear K HKU HG
      go_wp2_with (first | refine load_wanted (by kernel_rfl) 43 (.tmp 4) rfl (z + 1) (by kernel_rfl) _ _ _ _ gC Tryd.underlying43 rfl (by kernel_rfl) ?_ | refine load_wanted (by kernel_rfl) 43 (.tmp 14) rfl x4.heap.size (by kernel_rfl) _ _ _ _ gD Tryd.underlying43 rfl (by kernel_rfl) ?_)
      refine KA.mono ?_
      rintro r w10 ⟨rfl, B10⟩
      have HB10 : Hid _ := B10
      clear gC gD KA B10
      have HE : Hid (Below z w w10) := (HW.out.1.trans (((Below.refl w8.heap.size w8)).mono HW.out.2)).trans (HB10.out.mono (Nat.le_trans HW.out.2 ((Below.refl w8.heap.size w8)).size))
      rcases Decidable.em (f5 = 0) with h5 | h5
      · obtain ⟨y5, y6⟩ := HY.out h5
        subst h5 y5 y6
        rcases Decidable.em (f7 = 0) with h7 | h7
        · obtain ⟨y7, y8⟩ := HM.out h7
          subst h7 y7 y8
          (go_wp2; go_ret; rw [HZ.out]; exact ⟨by simp_all, HE.out⟩)
        · (go_wp2; go_ret; rw [HZ.out]; exact ⟨by simp_all, HE.out⟩)
      · rcases Decidable.em (f7 = 0) with h7 | h7
        · obtain ⟨y7, y8⟩ := HM.out h7
          subst h7 y7 y8
          (go_wp2; go_ret; rw [HZ.out]; exact ⟨by simp_all, HE.out⟩)
        · (go_wp2; go_ret; rw [HZ.out]; exact ⟨by simp_all, HE.out⟩)
    · clear HKU HG
      have HE : Hid (Below z w w8) := HW.out.1.trans (((Below.refl w8.heap.size w8)).mono HW.out.2)
      rcases Decidable.em (f5 = 0) with h5 | h5
      · obtain ⟨y5, y6⟩ := HY.out h5
        subst h5 y5 y6
        rcases Decidable.em (f7 = 0) with h7 | h7
        · obtain ⟨y7, y8⟩ := HM.out h7
          subst h7 y7 y8
          (go_wp2; go_ret; rw [HZ.out]; exact ⟨by simp_all, HE.out⟩)
        · (go_wp2; go_ret; rw [HZ.out]; exact ⟨by simp_all, HE.out⟩)
      · rcases Decidable.em (f7 = 0) with h7 | h7
        · obtain ⟨y7, y8⟩ := HM.out h7
          subst h7 y7 y8
          (go_wp2; go_ret; rw [HZ.out]; exact ⟨by simp_all, HE.out⟩)
        · (go_wp2; go_ret; rw [HZ.out]; exact ⟨by simp_all, HE.out⟩)
end Go.Proofs.YtmefanagpkbjeaaDoor
