/- Lemmas: The law HeadLengths, walked. -/
import Derived.Test.YtmefanagpkbjeaaDoorM1
import Derived.Test.YtmefanagpkbjeaaDoorM10
import Derived.Test.YtmefanagpkbjeaaDoorM11
import Derived.Test.YtmefanagpkbjeaaDoorM12
import Derived.Test.YtmefanagpkbjeaaDoorM13
import Derived.Test.YtmefanagpkbjeaaDoorM14
import Derived.Test.YtmefanagpkbjeaaDoorM15
import Derived.Test.YtmefanagpkbjeaaDoorM16
import Derived.Test.YtmefanagpkbjeaaDoorM17
import Derived.Test.YtmefanagpkbjeaaDoorM18
import Derived.Test.YtmefanagpkbjeaaDoorM19
import Derived.Test.YtmefanagpkbjeaaDoorM2
import Derived.Test.YtmefanagpkbjeaaDoorM20
import Derived.Test.YtmefanagpkbjeaaDoorM21
import Derived.Test.YtmefanagpkbjeaaDoorM22
import Derived.Test.YtmefanagpkbjeaaDoorM23
import Derived.Test.YtmefanagpkbjeaaDoorM24
import Derived.Test.YtmefanagpkbjeaaDoorM25
import Derived.Test.YtmefanagpkbjeaaDoorM26
import Derived.Test.YtmefanagpkbjeaaDoorM27
import Derived.Test.YtmefanagpkbjeaaDoorM28
import Derived.Test.YtmefanagpkbjeaaDoorM29
import Derived.Test.YtmefanagpkbjeaaDoorM3
import Derived.Test.YtmefanagpkbjeaaDoorM30
import Derived.Test.YtmefanagpkbjeaaDoorM31
import Derived.Test.YtmefanagpkbjeaaDoorM32
import Derived.Test.YtmefanagpkbjeaaDoorM33
import Derived.Test.YtmefanagpkbjeaaDoorM34
import Derived.Test.YtmefanagpkbjeaaDoorM35
import Derived.Test.YtmefanagpkbjeaaDoorM36
import Derived.Test.YtmefanagpkbjeaaDoorM37
import Derived.Test.YtmefanagpkbjeaaDoorM38
import Derived.Test.YtmefanagpkbjeaaDoorM39
import Derived.Test.YtmefanagpkbjeaaDoorM4
import Derived.Test.YtmefanagpkbjeaaDoorM40
import Derived.Test.YtmefanagpkbjeaaDoorM41
import Derived.Test.YtmefanagpkbjeaaDoorM6
import Derived.Test.YtmefanagpkbjeaaDoorM7
import Derived.Test.YtmefanagpkbjeaaDoorM8
import Derived.Test.YtmefanagpkbjeaaDoorM9
import Derived.Test.YtmefanagpkbjeaaDoorRows
namespace Go.Proofs.YtmefanagpkbjeaaDoor
open Go.RowKit Go.Shelf Go.Sort
theorem bootFrom_none (s : ByteArray) (h : ∀ y, ¬ DecD s y) (w : World) : Calls Tryd.prog 22 #[.string s] w fun e w' => (∃ (a1 a2 a3 : Option Addr) (c1 c2 c3 : Nat), e = .returned (.tuple #[.agg #[Value.int .u64 0, Value.int .u64 0, Value.string ⟨#[]⟩, Value.string ⟨#[]⟩, Value.string ⟨#[]⟩, Value.string ⟨#[]⟩, Value.string ⟨#[]⟩, Value.int .u64 0, Value.slice a1 0 c1, Value.slice a2 0 c2, Value.string ⟨#[]⟩, Value.slice a3 0 c3], .int .i64 130])) ∧ Below w.heap.size w w' := by
  refine (bootFrom_any s w).mono ?_
  rintro r w' ⟨hB, d, e, a1, a2, a3, c1, c2, c3, hR, rfl, -⟩
  rcases hR with ⟨_, _, hD⟩ | ⟨rfl, rfl, _⟩
  · exact absurd hD (h _)
  · exact ⟨⟨a1, a2, a3, c1, c2, c3, rfl⟩, hB⟩
theorem from_none (s : ByteArray) (h : ∀ y, ¬ DecD s y) (w : World) : Calls Tryd.prog 24 #[.string s] w fun e w' => (∃ (a1 a2 a3 a4 a5 : Option Addr) (c1 c2 c3 c4 c5 : Nat), e = .returned (.tuple #[.agg #[Value.int .u64 0, Value.int .u64 0, Value.string ⟨#[]⟩, Value.string ⟨#[]⟩, Value.string ⟨#[]⟩, Value.string ⟨#[]⟩, Value.string ⟨#[]⟩, Value.int .u64 0, Value.slice a1 0 c1, Value.slice a2 0 c2, Value.string ⟨#[]⟩, Value.slice a3 0 c3, Value.int .u64 0, Value.int .u64 0, Value.string ⟨#[]⟩, Value.string ⟨#[]⟩, Value.string ⟨#[]⟩, Value.string ⟨#[]⟩, Value.string ⟨#[]⟩, Value.int .u64 0, Value.slice a4 0 c4, Value.slice a5 0 c5, Value.int .u64 0, Value.string ⟨#[]⟩, Value.int .u64 0], .int .i64 130])) ∧ Below w.heap.size w w' := by
  refine (from_any s w).mono ?_
  rintro r w' ⟨hB, d, e, a1, a2, a3, a4, a5, c1, c2, c3, c4, c5, hR, rfl, -⟩
  rcases hR with ⟨_, _, hD⟩ | ⟨rfl, rfl, _⟩
  · exact absurd hD (h _)
  · exact ⟨⟨a1, a2, a3, a4, a5, c1, c2, c3, c4, c5, rfl⟩, hB⟩
set_option maxRecDepth 100000 in
set_option maxHeartbeats 4000000 in
theorem headlengths_any (d : BtD) (g : UpD) (more : ByteArray) (a1 a2 a3 b1 b2 b3 b4 b5 : Option Addr) (c1 c2 c3 e1 e2 e3 e4 e5 : Nat) (hd : d.l.ok) (hgl : g.l.ok) (hgf : g.f.ok) (hb6 : U6 g.bits) (hs6 : U6 g.slot) (htb : tbI (btI d) < 10000000) (htu : tbI (upI g) < 10000000) (hsz : more.size < 10000000) (w : World) (hl : Laid w)
    (s1 : slS w.heap.size w a1 d.l.br) (s2 : slS w.heap.size w a2 d.c.ks) (s3 : slS w.heap.size w a3 d.br) (r1 : slS w.heap.size w b1 g.l.br) (r2 : slS w.heap.size w b2 g.c.ks) (r3 : slS w.heap.size w b3 g.nb) (r4 : slS w.heap.size w b4 g.f.br) (r5 : slS w.heap.size w b5 g.fb) :
    Calls Tryd.prog 8 #[.agg #[.int .u64 (d.l.s : Int), .int .u64 (d.l.u : Int), .string d.l.p, .string d.l.t, .string d.l.b, .string d.l.ea, .string d.l.ra, .int .u64 (d.l.m : Int), .slice a1 d.l.br.length c1, .slice a2 d.c.ks.length c2, .string d.c.sm, .slice a3 d.br.length c3], .agg #[.int .u64 (g.l.s : Int), .int .u64 (g.l.u : Int), .string g.l.p, .string g.l.t, .string g.l.b, .string g.l.ea, .string g.l.ra, .int .u64 (g.l.m : Int), .slice b1 g.l.br.length e1, .slice b2 g.c.ks.length e2, .string g.c.sm, .slice b3 g.nb.length e3, .int .u64 (g.f.s : Int), .int .u64 (g.f.u : Int), .string g.f.p, .string g.f.t, .string g.f.b, .string g.f.ea, .string g.f.ra, .int .u64 (g.f.m : Int), .slice b4 g.f.br.length e4, .slice b5 g.fb.length e5, .int .u64 (g.bits : Int), .string g.sig, .int .u64 (g.slot : Int)], .string more] w fun e w' => e = .returned (.bool true) ∧ Below w.heap.size w w' := by
  have KS := fun (W : World) (hB : Below w.heap.size w W) => shown13_any W (hl.below hB)
  have K1 := fun (W : World) (hB : Below w.heap.size w W) => bootBytes_any d a1 a2 a3 c1 c2 c3 hd htb w.heap.size W hB.size (slS_below hB s1) (slS_below hB s2) (slS_below hB s3)
  have K3 := fun (W : World) (hB : Below w.heap.size w W) => updBytes_any g b1 b2 b3 b4 b5 e1 e2 e3 e4 e5 hgl hgf hb6 hs6 htu w.heap.size W hB.size (slS_below hB r1) (slS_below hB r2) (slS_below hB r3) (slS_below hB r4) (slS_below hB r5)
  obtain ⟨v1, hv1⟩ : ∃ v, eS (btI d) = v := ⟨_, rfl⟩
  obtain ⟨v2, hv2⟩ : ∃ v, eE (btI d) = v := ⟨_, rfl⟩
  obtain ⟨v3, hv3⟩ : ∃ v, eS (upI g) = v := ⟨_, rfl⟩
  obtain ⟨v4, hv4⟩ : ∃ v, eE (upI g) = v := ⟨_, rfl⟩
  rw [hv1, hv2] at K1
  rw [hv3, hv4] at K3
  have HVB : Hid (v2 = 0 → 0 < v1.size ∧ v1.size ≤ 65536 ∧ (∀ x y, 0 < x.size → ¬ DecD (v1 ++ x) y) ∧ ∀ y, ¬ DecD (v1.extract 0 (v1.size - 1)) y) := fun h => by
    rw [← hv2] at h
    rw [← hv1]
    exact ⟨eS_pos h, (enc_decD h).1, fun x y hx => decD_more h x hx y, fun y => decD_less h y⟩
  have HVU : Hid (v4 = 0 → 0 < v3.size ∧ v3.size ≤ 65536 ∧ (∀ x y, 0 < x.size → ¬ DecD (v3 ++ x) y) ∧ ∀ y, ¬ DecD (v3.extract 0 (v3.size - 1)) y) := fun h => by
    rw [← hv4] at h
    rw [← hv3]
    exact ⟨eS_pos h, (enc_decD h).1, fun x y hx => decD_more h x hx y, fun y => decD_less h y⟩
  clear hv1 hv2 hv3 hv4
  obtain ⟨bq0, hbq0⟩ : ∃ v, (Value.int .u64 (d.l.s : Int)) = v := ⟨_, rfl⟩
  obtain ⟨bq1, hbq1⟩ : ∃ v, (Value.int .u64 (d.l.u : Int)) = v := ⟨_, rfl⟩
  obtain ⟨bq2, hbq2⟩ : ∃ v, (Value.string d.l.p) = v := ⟨_, rfl⟩
  obtain ⟨bq3, hbq3⟩ : ∃ v, (Value.string d.l.t) = v := ⟨_, rfl⟩
  obtain ⟨bq4, hbq4⟩ : ∃ v, (Value.string d.l.b) = v := ⟨_, rfl⟩
  obtain ⟨bq5, hbq5⟩ : ∃ v, (Value.string d.l.ea) = v := ⟨_, rfl⟩
  obtain ⟨bq6, hbq6⟩ : ∃ v, (Value.string d.l.ra) = v := ⟨_, rfl⟩
  obtain ⟨bq7, hbq7⟩ : ∃ v, (Value.int .u64 (d.l.m : Int)) = v := ⟨_, rfl⟩
  obtain ⟨bq8, hbq8⟩ : ∃ v, (Value.slice a1 d.l.br.length c1) = v := ⟨_, rfl⟩
  obtain ⟨bq9, hbq9⟩ : ∃ v, (Value.slice a2 d.c.ks.length c2) = v := ⟨_, rfl⟩
  obtain ⟨bq10, hbq10⟩ : ∃ v, (Value.string d.c.sm) = v := ⟨_, rfl⟩
  obtain ⟨bq11, hbq11⟩ : ∃ v, (Value.slice a3 d.br.length c3) = v := ⟨_, rfl⟩
  obtain ⟨uq0, huq0⟩ : ∃ v, (Value.int .u64 (g.l.s : Int)) = v := ⟨_, rfl⟩
  obtain ⟨uq1, huq1⟩ : ∃ v, (Value.int .u64 (g.l.u : Int)) = v := ⟨_, rfl⟩
  obtain ⟨uq2, huq2⟩ : ∃ v, (Value.string g.l.p) = v := ⟨_, rfl⟩
  obtain ⟨uq3, huq3⟩ : ∃ v, (Value.string g.l.t) = v := ⟨_, rfl⟩
  obtain ⟨uq4, huq4⟩ : ∃ v, (Value.string g.l.b) = v := ⟨_, rfl⟩
  obtain ⟨uq5, huq5⟩ : ∃ v, (Value.string g.l.ea) = v := ⟨_, rfl⟩
  obtain ⟨uq6, huq6⟩ : ∃ v, (Value.string g.l.ra) = v := ⟨_, rfl⟩
  obtain ⟨uq7, huq7⟩ : ∃ v, (Value.int .u64 (g.l.m : Int)) = v := ⟨_, rfl⟩
  obtain ⟨uq8, huq8⟩ : ∃ v, (Value.slice b1 g.l.br.length e1) = v := ⟨_, rfl⟩
  obtain ⟨uq9, huq9⟩ : ∃ v, (Value.slice b2 g.c.ks.length e2) = v := ⟨_, rfl⟩
  obtain ⟨uq10, huq10⟩ : ∃ v, (Value.string g.c.sm) = v := ⟨_, rfl⟩
  obtain ⟨uq11, huq11⟩ : ∃ v, (Value.slice b3 g.nb.length e3) = v := ⟨_, rfl⟩
  obtain ⟨uq12, huq12⟩ : ∃ v, (Value.int .u64 (g.f.s : Int)) = v := ⟨_, rfl⟩
  obtain ⟨uq13, huq13⟩ : ∃ v, (Value.int .u64 (g.f.u : Int)) = v := ⟨_, rfl⟩
  obtain ⟨uq14, huq14⟩ : ∃ v, (Value.string g.f.p) = v := ⟨_, rfl⟩
  obtain ⟨uq15, huq15⟩ : ∃ v, (Value.string g.f.t) = v := ⟨_, rfl⟩
  obtain ⟨uq16, huq16⟩ : ∃ v, (Value.string g.f.b) = v := ⟨_, rfl⟩
  obtain ⟨uq17, huq17⟩ : ∃ v, (Value.string g.f.ea) = v := ⟨_, rfl⟩
  obtain ⟨uq18, huq18⟩ : ∃ v, (Value.string g.f.ra) = v := ⟨_, rfl⟩
  obtain ⟨uq19, huq19⟩ : ∃ v, (Value.int .u64 (g.f.m : Int)) = v := ⟨_, rfl⟩
  obtain ⟨uq20, huq20⟩ : ∃ v, (Value.slice b4 g.f.br.length e4) = v := ⟨_, rfl⟩
  obtain ⟨uq21, huq21⟩ : ∃ v, (Value.slice b5 g.fb.length e5) = v := ⟨_, rfl⟩
  obtain ⟨uq22, huq22⟩ : ∃ v, (Value.int .u64 (g.bits : Int)) = v := ⟨_, rfl⟩
  obtain ⟨uq23, huq23⟩ : ∃ v, (Value.string g.sig) = v := ⟨_, rfl⟩
  obtain ⟨uq24, huq24⟩ : ∃ v, (Value.int .u64 (g.slot : Int)) = v := ⟨_, rfl⟩
  rw [hbq0, hbq1, hbq2, hbq3, hbq4, hbq5, hbq6, hbq7, hbq8, hbq9, hbq10, hbq11] at K1
  rw [huq0, huq1, huq2, huq3, huq4, huq5, huq6, huq7, huq8, huq9, huq10, huq11, huq12, huq13, huq14, huq15, huq16, huq17, huq18, huq19, huq20, huq21, huq22, huq23, huq24] at K3
  rw [hbq0, hbq1, hbq2, hbq3, hbq4, hbq5, hbq6, hbq7, hbq8, hbq9, hbq10, hbq11, huq0, huq1, huq2, huq3, huq4, huq5, huq6, huq7, huq8, huq9, huq10, huq11, huq12, huq13, huq14, huq15, huq16, huq17, huq18, huq19, huq20, huq21, huq22, huq23, huq24]
  clear hbq0 hbq1 hbq2 hbq3 hbq4 hbq5 hbq6 hbq7 hbq8 hbq9 hbq10 hbq11 huq0 huq1 huq2 huq3 huq4 huq5 huq6 huq7 huq8 huq9 huq10 huq11 huq12 huq13 huq14 huq15 huq16 huq17 huq18 huq19 huq20 huq21 huq22 huq23 huq24
  clear s1 s2 s3 r1 r2 r3 r4 r5 hd hgl hgf hb6 hs6 htb htu
  obtain ⟨A0, h0, h1⟩ := two_boxes w (.cells #[bq0, bq1, bq2, bq3, bq4, bq5, bq6, bq7, bq8, bq9, bq10, bq11] 41) (.cells #[uq0, uq1, uq2, uq3, uq4, uq5, uq6, uq7, uq8, uq9, uq10, uq11, uq12, uq13, uq14, uq15, uq16, uq17, uq18, uq19, uq20, uq21, uq22, uq23, uq24] 43)
  obtain ⟨z, hz⟩ : ∃ z, w.heap.size = z := ⟨_, rfl⟩
  have HZ : Hid (w.heap.size = z) := hz
  obtain ⟨w1, hw1⟩ : ∃ W, (w.alloc (.cells #[bq0, bq1, bq2, bq3, bq4, bq5, bq6, bq7, bq8, bq9, bq10, bq11] 41)).alloc (.cells #[uq0, uq1, uq2, uq3, uq4, uq5, uq6, uq7, uq8, uq9, uq10, uq11, uq12, uq13, uq14, uq15, uq16, uq17, uq18, uq19, uq20, uq21, uq22, uq23, uq24] 43) = W := ⟨_, rfl⟩
  have hsz1 : w1.heap.size = z + 2 := by rw [← hw1, ← hz]; simp
  rw [hw1] at A0 h0 h1
  rw [hz] at A0 h0 h1 KS K1 K3
  have cs : ∀ W : World, Below w1.heap.size w1 W → Hid (W.heap[z]? = some (.cells #[bq0, bq1, bq2, bq3, bq4, bq5, bq6, bq7, bq8, bq9, bq10, bq11] 41 (0, 0)) ∧ W.heap[z + 1]? = some (.cells #[uq0, uq1, uq2, uq3, uq4, uq5, uq6, uq7, uq8, uq9, uq10, uq11, uq12, uq13, uq14, uq15, uq16, uq17, uq18, uq19, uq20, uq21, uq22, uq23, uq24] 43 (0, 0))) := fun W hB => ⟨(hB.block z (by omega)).trans h0, (hB.block (z + 1) (by omega)).trans h1⟩
  have HC : Hid _ := cs
  have HX0 : Hid (Below z w w1 ∧ z ≤ w1.heap.size) := ⟨A0, by omega⟩
  obtain ⟨N, hN⟩ : ∃ N, more.size = N := ⟨_, rfl⟩
  clear cs
  go_enter Tryd.func8, Tryd.ntmps8
  clear h0 h1
  have G0 : Below w1.heap.size w1 w1 := Below.refl _ _
  go_wp2_with fail
  first | rw [hw1] | skip
  try rw [hz]
  refine (KS _ (HX0.out.1.trans (G0.mono HX0.out.2))).mono ?_
  rintro e w2 ⟨rfl, B5⟩
  replace G0 := G0.trans (B5.mono G0.size)
  clear B5
  clear hz hw1 A0
  have hgU := (HC.out w2 G0).out.1
  go_wp2_with (refine wpList_load_row rfl 41 _ rfl (z) rfl _ _ _ _ hgU Tryd.underlying41 rfl (by kernel_rfl) ?_)
  obtain ⟨m, hm⟩ : ∃ m, more.extract 0 (min (N : Int) 1000).toNat = m := ⟨_, rfl⟩
  have hms : m.size ≤ 1000 := by rw [← hm, ByteArray.size_extract]; omega
  rw [hm]
  clear hm
  obtain ⟨M, hM⟩ : ∃ M, m.size = M := ⟨_, rfl⟩
  rw [hM] at hms
  refine (K1 _ (HX0.out.1.trans (G0.mono HX0.out.2))).mono ?_
  rintro e w3 ⟨rfl, B5⟩
  replace G0 := G0.trans (B5.mono G0.size)
  clear B5 hgU
  have hgU := (HC.out w3 G0).out.2
  go_wp2_with (refine wpList_load_row rfl 43 _ rfl (z + 1) rfl _ _ _ _ hgU Tryd.underlying43 rfl (by kernel_rfl) ?_)
  refine (K3 _ (HX0.out.1.trans (G0.mono HX0.out.2))).mono ?_
  rintro e w4 ⟨rfl, B5⟩
  replace G0 := G0.trans (B5.mono G0.size)
  clear B5 hgU
  clear K1 K3 HC
  have HX : Hid (Below z w w4 ∧ z ≤ w4.heap.size) := ⟨(HX0.out.1.trans (G0.mono HX0.out.2)), Nat.le_trans HX0.out.2 G0.size⟩
  clear HX0 G0
  rcases Decidable.em (v2 = 0) with h2 | h2
  · obtain ⟨p1, p2, p3, p4⟩ := HVB.out h2
    subst h2
    rcases Decidable.em (v4 = 0) with h4 | h4
    · obtain ⟨q1, q2, q3, q4⟩ := HVU.out h4
      subst h4
      have hv1 : (v1.toList == []) = false := by rw [beq_eq_false_iff_ne]; intro h; have h9 : v1 = ⟨#[]⟩ := toList_inj (h.trans (by decide +kernel : ([] : List UInt8) = (⟨#[]⟩ : ByteArray).toList)); rw [h9] at p1; exact absurd p1 (by decide)
      have hv3 : (v3.toList == []) = false := by rw [beq_eq_false_iff_ne]; intro h; have h9 : v3 = ⟨#[]⟩ := toList_inj (h.trans (by decide +kernel : ([] : List UInt8) = (⟨#[]⟩ : ByteArray).toList)); rw [h9] at q1; exact absurd q1 (by decide)
      rcases Decidable.em (m.size = 0) with hm0 | hm0
      · obtain rfl : m = ⟨#[]⟩ := by
          apply ByteArray.ext; exact Array.eq_empty_of_size_eq_zero hm0
        go_wp2
        go_ret
        rw [HZ.out]
        exact ⟨rfl, HX.out.1⟩
      · have hm1 : (m.toList == []) = false := by rw [beq_eq_false_iff_ne]; intro h; have h9 : m = ⟨#[]⟩ := toList_inj (h.trans (by decide +kernel : ([] : List UInt8) = (⟨#[]⟩ : ByteArray).toList)); rw [h9] at hm0; exact absurd rfl hm0
        obtain ⟨V1, hV1⟩ : ∃ V, v1.size = V := ⟨_, rfl⟩
        obtain ⟨V3, hV3⟩ : ∃ V, v3.size = V := ⟨_, rfl⟩
        rw [hV1] at p1 p2 p4
        rw [hV3] at q1 q2 q4
        have z1 : ¬ 9223372036854775807 < v1.size + m.size := by omega
        have z2 : ¬ 9223372036854775807 < v3.size + m.size := by omega
        have z3 : ¬ 9223372036854775807 < V1 + M := by omega
        have z4 : ¬ 9223372036854775807 < V3 + M := by omega
        have HZ1 : Hid (0 < m.size ∧ 0 < V1 ∧ 0 < V3) := ⟨by omega, p1, q1⟩
        have l1 : (0 : Int) ≤ (V1 : Int) - 1 := by omega
        have l3 : (0 : Int) ≤ (V3 : Int) - 1 := by omega
        have w1_ : IntKind.i64.wrap ((V1 : Int) - 1) = (V1 : Int) - 1 := by rw [IntKind.wrap_i64]; omega
        have w3_ : IntKind.i64.wrap ((V3 : Int) - 1) = (V3 : Int) - 1 := by rw [IntKind.wrap_i64]; omega
        have K5 := bootFrom_none (v1 ++ m) (fun y => p3 m y HZ1.out.1)
        have K6 := from_none (v3 ++ m) (fun y => q3 m y HZ1.out.1)
        have K7 := bootFrom_none (v1.extract 0 (V1 - 1)) p4
        have K8 := from_none (v3.extract 0 (V3 - 1)) q4
        clear p1 p2 p3 p4 q1 q2 q3 q4 hm0 hsz
        go_wp2_with fail
        refine (K5 _).mono ?_
        rintro e x5 ⟨⟨x5a0, x5a1, x5a2, x5c0, x5c1, x5c2, rfl⟩, B5⟩
        have Hx5 : Hid (Below z w x5 ∧ z ≤ x5.heap.size) := ⟨HX.out.1.trans (B5.mono HX.out.2), Nat.le_trans HX.out.2 B5.size⟩
        clear K5 B5
        obtain ⟨ux5, hux5⟩ : ∃ W, (x5.alloc (.cells #[Value.int .u64 0, Value.int .u64 0, Value.string ⟨#[]⟩, Value.string ⟨#[]⟩, Value.string ⟨#[]⟩, Value.string ⟨#[]⟩, Value.string ⟨#[]⟩, Value.int .u64 0, Value.slice none 0 0, Value.slice none 0 0, Value.string ⟨#[]⟩, Value.slice none 0 0] 41)).setRow x5.heap.size #[Value.int .u64 0, Value.int .u64 0, Value.string ⟨#[]⟩, Value.string ⟨#[]⟩, Value.string ⟨#[]⟩, Value.string ⟨#[]⟩, Value.string ⟨#[]⟩, Value.int .u64 0, Value.slice x5a0 0 x5c0, Value.slice x5a1 0 x5c1, Value.string ⟨#[]⟩, Value.slice x5a2 0 x5c2] = W := ⟨_, rfl⟩
        have al : Below x5.heap.size x5 ux5 := by rw [← hux5]; exact below_setRow (be_new _ _) (Nat.le_refl _) _
        have Hux5 : Hid (Below z w ux5 ∧ z ≤ ux5.heap.size) := ⟨Hx5.out.1.trans (al.mono Hx5.out.2), Nat.le_trans Hx5.out.2 al.size⟩
        clear al
        go_wp2_with (refine store_row0 rfl rfl 41 _ _ rfl x5.heap.size #[Value.int .u64 0, Value.int .u64 0, Value.string ⟨#[]⟩, Value.string ⟨#[]⟩, Value.string ⟨#[]⟩, Value.string ⟨#[]⟩, Value.string ⟨#[]⟩, Value.int .u64 0, Value.slice x5a0 0 x5c0, Value.slice x5a1 0 x5c1, Value.string ⟨#[]⟩, Value.slice x5a2 0 x5c2] (by kernel_rfl) (by kernel_rfl) 41 _ (World.alloc_heap_new _ _) (by kernel_rfl) rfl (by simp [Value.oneCell']) ?_)
        first | rw [hux5] | skip
        clear hux5
        generalize (Value.tuple #[Value.agg #[Value.int .u64 0, Value.int .u64 0, Value.string ⟨#[]⟩, Value.string ⟨#[]⟩, Value.string ⟨#[]⟩, Value.string ⟨#[]⟩, Value.string ⟨#[]⟩, Value.int .u64 0, Value.slice x5a0 0 x5c0, Value.slice x5a1 0 x5c1, Value.string ⟨#[]⟩, Value.slice x5a2 0 x5c2], Value.int .i64 130]) = ztx5
        generalize (Value.agg #[Value.int .u64 0, Value.int .u64 0, Value.string ⟨#[]⟩, Value.string ⟨#[]⟩, Value.string ⟨#[]⟩, Value.string ⟨#[]⟩, Value.string ⟨#[]⟩, Value.int .u64 0, Value.slice x5a0 0 x5c0, Value.slice x5a1 0 x5c1, Value.string ⟨#[]⟩, Value.slice x5a2 0 x5c2]) = zax5
        refine (K6 _).mono ?_
        rintro e x6 ⟨⟨x6a0, x6a1, x6a2, x6a3, x6a4, x6c0, x6c1, x6c2, x6c3, x6c4, rfl⟩, B5⟩
        have Hx6 : Hid (Below z w x6 ∧ z ≤ x6.heap.size) := ⟨Hux5.out.1.trans (B5.mono Hux5.out.2), Nat.le_trans Hux5.out.2 B5.size⟩
        clear K6 B5
        obtain ⟨ux6, hux6⟩ : ∃ W, (x6.alloc (.cells #[Value.int .u64 0, Value.int .u64 0, Value.string ⟨#[]⟩, Value.string ⟨#[]⟩, Value.string ⟨#[]⟩, Value.string ⟨#[]⟩, Value.string ⟨#[]⟩, Value.int .u64 0, Value.slice none 0 0, Value.slice none 0 0, Value.string ⟨#[]⟩, Value.slice none 0 0, Value.int .u64 0, Value.int .u64 0, Value.string ⟨#[]⟩, Value.string ⟨#[]⟩, Value.string ⟨#[]⟩, Value.string ⟨#[]⟩, Value.string ⟨#[]⟩, Value.int .u64 0, Value.slice none 0 0, Value.slice none 0 0, Value.int .u64 0, Value.string ⟨#[]⟩, Value.int .u64 0] 43)).setRow x6.heap.size #[Value.int .u64 0, Value.int .u64 0, Value.string ⟨#[]⟩, Value.string ⟨#[]⟩, Value.string ⟨#[]⟩, Value.string ⟨#[]⟩, Value.string ⟨#[]⟩, Value.int .u64 0, Value.slice x6a0 0 x6c0, Value.slice x6a1 0 x6c1, Value.string ⟨#[]⟩, Value.slice x6a2 0 x6c2, Value.int .u64 0, Value.int .u64 0, Value.string ⟨#[]⟩, Value.string ⟨#[]⟩, Value.string ⟨#[]⟩, Value.string ⟨#[]⟩, Value.string ⟨#[]⟩, Value.int .u64 0, Value.slice x6a3 0 x6c3, Value.slice x6a4 0 x6c4, Value.int .u64 0, Value.string ⟨#[]⟩, Value.int .u64 0] = W := ⟨_, rfl⟩
        have al : Below x6.heap.size x6 ux6 := by rw [← hux6]; exact below_setRow (be_new _ _) (Nat.le_refl _) _
        have Hux6 : Hid (Below z w ux6 ∧ z ≤ ux6.heap.size) := ⟨Hx6.out.1.trans (al.mono Hx6.out.2), Nat.le_trans Hx6.out.2 al.size⟩
        clear al
        go_wp2_with (refine store_row0 rfl rfl 43 _ _ rfl x6.heap.size #[Value.int .u64 0, Value.int .u64 0, Value.string ⟨#[]⟩, Value.string ⟨#[]⟩, Value.string ⟨#[]⟩, Value.string ⟨#[]⟩, Value.string ⟨#[]⟩, Value.int .u64 0, Value.slice x6a0 0 x6c0, Value.slice x6a1 0 x6c1, Value.string ⟨#[]⟩, Value.slice x6a2 0 x6c2, Value.int .u64 0, Value.int .u64 0, Value.string ⟨#[]⟩, Value.string ⟨#[]⟩, Value.string ⟨#[]⟩, Value.string ⟨#[]⟩, Value.string ⟨#[]⟩, Value.int .u64 0, Value.slice x6a3 0 x6c3, Value.slice x6a4 0 x6c4, Value.int .u64 0, Value.string ⟨#[]⟩, Value.int .u64 0] (by kernel_rfl) (by kernel_rfl) 43 _ (World.alloc_heap_new _ _) (by kernel_rfl) rfl (by simp [Value.oneCell']) ?_)
        first | rw [hux6] | skip
        clear hux6
        generalize (Value.tuple #[Value.agg #[Value.int .u64 0, Value.int .u64 0, Value.string ⟨#[]⟩, Value.string ⟨#[]⟩, Value.string ⟨#[]⟩, Value.string ⟨#[]⟩, Value.string ⟨#[]⟩, Value.int .u64 0, Value.slice x6a0 0 x6c0, Value.slice x6a1 0 x6c1, Value.string ⟨#[]⟩, Value.slice x6a2 0 x6c2, Value.int .u64 0, Value.int .u64 0, Value.string ⟨#[]⟩, Value.string ⟨#[]⟩, Value.string ⟨#[]⟩, Value.string ⟨#[]⟩, Value.string ⟨#[]⟩, Value.int .u64 0, Value.slice x6a3 0 x6c3, Value.slice x6a4 0 x6c4, Value.int .u64 0, Value.string ⟨#[]⟩, Value.int .u64 0], Value.int .i64 130]) = ztx6
        generalize (Value.agg #[Value.int .u64 0, Value.int .u64 0, Value.string ⟨#[]⟩, Value.string ⟨#[]⟩, Value.string ⟨#[]⟩, Value.string ⟨#[]⟩, Value.string ⟨#[]⟩, Value.int .u64 0, Value.slice x6a0 0 x6c0, Value.slice x6a1 0 x6c1, Value.string ⟨#[]⟩, Value.slice x6a2 0 x6c2, Value.int .u64 0, Value.int .u64 0, Value.string ⟨#[]⟩, Value.string ⟨#[]⟩, Value.string ⟨#[]⟩, Value.string ⟨#[]⟩, Value.string ⟨#[]⟩, Value.int .u64 0, Value.slice x6a3 0 x6c3, Value.slice x6a4 0 x6c4, Value.int .u64 0, Value.string ⟨#[]⟩, Value.int .u64 0]) = zax6
        refine (K7 _).mono ?_
        rintro e x7 ⟨⟨x7a0, x7a1, x7a2, x7c0, x7c1, x7c2, rfl⟩, B5⟩
        have Hx7 : Hid (Below z w x7 ∧ z ≤ x7.heap.size) := ⟨Hux6.out.1.trans (B5.mono Hux6.out.2), Nat.le_trans Hux6.out.2 B5.size⟩
        clear K7 B5
        obtain ⟨ux7, hux7⟩ : ∃ W, (x7.alloc (.cells #[Value.int .u64 0, Value.int .u64 0, Value.string ⟨#[]⟩, Value.string ⟨#[]⟩, Value.string ⟨#[]⟩, Value.string ⟨#[]⟩, Value.string ⟨#[]⟩, Value.int .u64 0, Value.slice none 0 0, Value.slice none 0 0, Value.string ⟨#[]⟩, Value.slice none 0 0] 41)).setRow x7.heap.size #[Value.int .u64 0, Value.int .u64 0, Value.string ⟨#[]⟩, Value.string ⟨#[]⟩, Value.string ⟨#[]⟩, Value.string ⟨#[]⟩, Value.string ⟨#[]⟩, Value.int .u64 0, Value.slice x7a0 0 x7c0, Value.slice x7a1 0 x7c1, Value.string ⟨#[]⟩, Value.slice x7a2 0 x7c2] = W := ⟨_, rfl⟩
        have al : Below x7.heap.size x7 ux7 := by rw [← hux7]; exact below_setRow (be_new _ _) (Nat.le_refl _) _
        have Hux7 : Hid (Below z w ux7 ∧ z ≤ ux7.heap.size) := ⟨Hx7.out.1.trans (al.mono Hx7.out.2), Nat.le_trans Hx7.out.2 al.size⟩
        clear al
        go_wp2_with (refine store_row0 rfl rfl 41 _ _ rfl x7.heap.size #[Value.int .u64 0, Value.int .u64 0, Value.string ⟨#[]⟩, Value.string ⟨#[]⟩, Value.string ⟨#[]⟩, Value.string ⟨#[]⟩, Value.string ⟨#[]⟩, Value.int .u64 0, Value.slice x7a0 0 x7c0, Value.slice x7a1 0 x7c1, Value.string ⟨#[]⟩, Value.slice x7a2 0 x7c2] (by kernel_rfl) (by kernel_rfl) 41 _ (World.alloc_heap_new _ _) (by kernel_rfl) rfl (by simp [Value.oneCell']) ?_)
        first | rw [hux7] | skip
        clear hux7
        generalize (Value.tuple #[Value.agg #[Value.int .u64 0, Value.int .u64 0, Value.string ⟨#[]⟩, Value.string ⟨#[]⟩, Value.string ⟨#[]⟩, Value.string ⟨#[]⟩, Value.string ⟨#[]⟩, Value.int .u64 0, Value.slice x7a0 0 x7c0, Value.slice x7a1 0 x7c1, Value.string ⟨#[]⟩, Value.slice x7a2 0 x7c2], Value.int .i64 130]) = ztx7
        generalize (Value.agg #[Value.int .u64 0, Value.int .u64 0, Value.string ⟨#[]⟩, Value.string ⟨#[]⟩, Value.string ⟨#[]⟩, Value.string ⟨#[]⟩, Value.string ⟨#[]⟩, Value.int .u64 0, Value.slice x7a0 0 x7c0, Value.slice x7a1 0 x7c1, Value.string ⟨#[]⟩, Value.slice x7a2 0 x7c2]) = zax7
        refine (K8 _).mono ?_
        rintro e x8 ⟨⟨x8a0, x8a1, x8a2, x8a3, x8a4, x8c0, x8c1, x8c2, x8c3, x8c4, rfl⟩, B5⟩
        have Hx8 : Hid (Below z w x8 ∧ z ≤ x8.heap.size) := ⟨Hux7.out.1.trans (B5.mono Hux7.out.2), Nat.le_trans Hux7.out.2 B5.size⟩
        clear K8 B5
        obtain ⟨ux8, hux8⟩ : ∃ W, (x8.alloc (.cells #[Value.int .u64 0, Value.int .u64 0, Value.string ⟨#[]⟩, Value.string ⟨#[]⟩, Value.string ⟨#[]⟩, Value.string ⟨#[]⟩, Value.string ⟨#[]⟩, Value.int .u64 0, Value.slice none 0 0, Value.slice none 0 0, Value.string ⟨#[]⟩, Value.slice none 0 0, Value.int .u64 0, Value.int .u64 0, Value.string ⟨#[]⟩, Value.string ⟨#[]⟩, Value.string ⟨#[]⟩, Value.string ⟨#[]⟩, Value.string ⟨#[]⟩, Value.int .u64 0, Value.slice none 0 0, Value.slice none 0 0, Value.int .u64 0, Value.string ⟨#[]⟩, Value.int .u64 0] 43)).setRow x8.heap.size #[Value.int .u64 0, Value.int .u64 0, Value.string ⟨#[]⟩, Value.string ⟨#[]⟩, Value.string ⟨#[]⟩, Value.string ⟨#[]⟩, Value.string ⟨#[]⟩, Value.int .u64 0, Value.slice x8a0 0 x8c0, Value.slice x8a1 0 x8c1, Value.string ⟨#[]⟩, Value.slice x8a2 0 x8c2, Value.int .u64 0, Value.int .u64 0, Value.string ⟨#[]⟩, Value.string ⟨#[]⟩, Value.string ⟨#[]⟩, Value.string ⟨#[]⟩, Value.string ⟨#[]⟩, Value.int .u64 0, Value.slice x8a3 0 x8c3, Value.slice x8a4 0 x8c4, Value.int .u64 0, Value.string ⟨#[]⟩, Value.int .u64 0] = W := ⟨_, rfl⟩
        have al : Below x8.heap.size x8 ux8 := by rw [← hux8]; exact below_setRow (be_new _ _) (Nat.le_refl _) _
        have Hux8 : Hid (Below z w ux8 ∧ z ≤ ux8.heap.size) := ⟨Hx8.out.1.trans (al.mono Hx8.out.2), Nat.le_trans Hx8.out.2 al.size⟩
        clear al
        go_wp2_with (refine store_row0 rfl rfl 43 _ _ rfl x8.heap.size #[Value.int .u64 0, Value.int .u64 0, Value.string ⟨#[]⟩, Value.string ⟨#[]⟩, Value.string ⟨#[]⟩, Value.string ⟨#[]⟩, Value.string ⟨#[]⟩, Value.int .u64 0, Value.slice x8a0 0 x8c0, Value.slice x8a1 0 x8c1, Value.string ⟨#[]⟩, Value.slice x8a2 0 x8c2, Value.int .u64 0, Value.int .u64 0, Value.string ⟨#[]⟩, Value.string ⟨#[]⟩, Value.string ⟨#[]⟩, Value.string ⟨#[]⟩, Value.string ⟨#[]⟩, Value.int .u64 0, Value.slice x8a3 0 x8c3, Value.slice x8a4 0 x8c4, Value.int .u64 0, Value.string ⟨#[]⟩, Value.int .u64 0] (by kernel_rfl) (by kernel_rfl) 43 _ (World.alloc_heap_new _ _) (by kernel_rfl) rfl (by simp [Value.oneCell']) ?_)
        first | rw [hux8] | skip
        go_ret
        rw [HZ.out]
        exact ⟨rfl, Hux8.out.1⟩
    · go_wp2
      go_ret
      rw [HZ.out]
      exact ⟨rfl, HX.out.1⟩
  · go_wp2
    go_ret
    rw [HZ.out]
    exact ⟨rfl, HX.out.1⟩
end Go.Proofs.YtmefanagpkbjeaaDoor
