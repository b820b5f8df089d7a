/- Lemmas: The reference's Same of Lights, committees, messages: of two that hold the same. -/
import Derived.Test.YtmefanagpkbjeaaDoorM1
import Derived.Test.YtmefanagpkbjeaaDoorM10
import Derived.Test.YtmefanagpkbjeaaDoorM11
import Derived.Test.YtmefanagpkbjeaaDoorM12
import Derived.Test.YtmefanagpkbjeaaDoorM13
import Derived.Test.YtmefanagpkbjeaaDoorM14
import Derived.Test.YtmefanagpkbjeaaDoorM15
import Derived.Test.YtmefanagpkbjeaaDoorM16
import Derived.Test.YtmefanagpkbjeaaDoorM17
import Derived.Test.YtmefanagpkbjeaaDoorM18
import Derived.Test.YtmefanagpkbjeaaDoorM19
import Derived.Test.YtmefanagpkbjeaaDoorM2
import Derived.Test.YtmefanagpkbjeaaDoorM20
import Derived.Test.YtmefanagpkbjeaaDoorM21
import Derived.Test.YtmefanagpkbjeaaDoorM22
import Derived.Test.YtmefanagpkbjeaaDoorM23
import Derived.Test.YtmefanagpkbjeaaDoorM24
import Derived.Test.YtmefanagpkbjeaaDoorM25
import Derived.Test.YtmefanagpkbjeaaDoorM26
import Derived.Test.YtmefanagpkbjeaaDoorM27
import Derived.Test.YtmefanagpkbjeaaDoorM28
import Derived.Test.YtmefanagpkbjeaaDoorM29
import Derived.Test.YtmefanagpkbjeaaDoorM3
import Derived.Test.YtmefanagpkbjeaaDoorM30
import Derived.Test.YtmefanagpkbjeaaDoorM31
import Derived.Test.YtmefanagpkbjeaaDoorM32
import Derived.Test.YtmefanagpkbjeaaDoorM33
import Derived.Test.YtmefanagpkbjeaaDoorM34
import Derived.Test.YtmefanagpkbjeaaDoorM35
import Derived.Test.YtmefanagpkbjeaaDoorM36
import Derived.Test.YtmefanagpkbjeaaDoorM4
import Derived.Test.YtmefanagpkbjeaaDoorM40
import Derived.Test.YtmefanagpkbjeaaDoorM6
import Derived.Test.YtmefanagpkbjeaaDoorM7
import Derived.Test.YtmefanagpkbjeaaDoorM8
import Derived.Test.YtmefanagpkbjeaaDoorM9
import Derived.Test.YtmefanagpkbjeaaDoorRows
import Derived.BigQuiet
namespace Go.Proofs.YtmefanagpkbjeaaDoor
open Go.RowKit Go.Shelf Go.Sort

set_option maxRecDepth 100000 in
set_option maxHeartbeats 4000000 in
theorem sameLight_any (d : LtD) (a b : Option Addr) (c e n : Nat) (hlen : d.br.length < 1000000) (w : World) (hn : n ≤ w.heap.size) (ha : slS n w a d.br) (hb : slS n w b d.br) :
    Calls Tryd.prog 60 #[.agg (ltV d a c).toArray, .agg (ltV d b e).toArray] w fun r w' => r = .returned (.bool true) ∧ Below w.heap.size w w' := by
  obtain ⟨s, u, p, t, bo, ea, ra, m, br⟩ := d
  simp only [ltV] at ha hb hlen ⊢
  have KS := fun (W : World) (hB : Below n w W) (h2 : n ≤ W.heap.size) => same8_any br br hlen hlen a b c e n W h2 (slS_below hB ha) (slS_below hB hb)
  obtain ⟨N, hN⟩ : ∃ N, br.length = N := ⟨_, rfl⟩
  rw [hN] at KS ⊢
  clear hN ha hb hlen
  obtain ⟨A0, -, -⟩ := two_boxes w (.cells #[.int .u64 (s : Int), .int .u64 (u : Int), .string p, .string t, .string bo, .string ea, .string ra, .int .u64 (m : Int), .slice a N c] 29) (.cells #[.int .u64 (s : Int), .int .u64 (u : Int), .string p, .string t, .string bo, .string ea, .string ra, .int .u64 (m : Int), .slice b N e] 29)
  have KS0 := KS _ (A0.mono hn) (Nat.le_trans hn A0.size)
  have HA : Hid _ := A0
  clear A0 KS
  go_enter Tryd.func60, Tryd.ntmps60
  go_wp2_with fail
  refine KS0.mono ?_
  rintro r w2 ⟨rfl, B2⟩
  have HX : Hid _ := belowStep HA.out HA.out.size B2
  clear B2 KS0 HA
  go_wp2
  go_ret
  exact ⟨by simp, HX.out⟩
set_option maxRecDepth 100000 in
set_option maxHeartbeats 4000000 in
theorem sameComm_any (d : CmD) (a b : Option Addr) (c e n : Nat) (hlen : d.ks.length < 1000000) (w : World) (hn : n ≤ w.heap.size) (ha : slS n w a d.ks) (hb : slS n w b d.ks) :
    Calls Tryd.prog 61 #[.agg (cmV d a c).toArray, .agg (cmV d b e).toArray] w fun r w' => r = .returned (.bool true) ∧ Below w.heap.size w w' := by
  obtain ⟨ks, sm⟩ := d
  simp only [cmV] at ha hb hlen ⊢
  have KS := fun (W : World) (hB : Below n w W) (h2 : n ≤ W.heap.size) => same8_any ks ks hlen hlen a b c e n W h2 (slS_below hB ha) (slS_below hB hb)
  obtain ⟨N, hN⟩ : ∃ N, ks.length = N := ⟨_, rfl⟩
  rw [hN] at KS ⊢
  clear hN ha hb hlen
  obtain ⟨A0, -, -⟩ := two_boxes w (.cells #[.slice a N c, .string sm] 31) (.cells #[.slice b N e, .string sm] 31)
  have KS0 := KS _ (A0.mono hn) (Nat.le_trans hn A0.size)
  have HA : Hid _ := A0
  clear A0 KS
  go_enter Tryd.func61, Tryd.ntmps61
  go_wp2_with fail
  refine KS0.mono ?_
  rintro r w2 ⟨rfl, B2⟩
  have HX : Hid _ := belowStep HA.out HA.out.size B2
  clear B2 KS0 HA
  go_wp2
  go_ret
  exact ⟨by simp, HX.out⟩
set_option maxRecDepth 100000 in
set_option maxHeartbeats 4000000 in
theorem sameBoot_any (d : BtD) (a1 a2 a3 b1 b2 b3 : Option Addr) (c1 c2 c3 e1 e2 e3 n : Nat) (hlen : d.l.br.length < 1000000 ∧ d.c.ks.length < 1000000 ∧ d.br.length < 1000000) (w : World) (hn : n ≤ w.heap.size) (p0 : slS n w a1 d.l.br) (q0 : slS n w b1 d.l.br) (p1 : slS n w a2 d.c.ks) (q1 : slS n w b2 d.c.ks) (p2 : slS n w a3 d.br) (q2 : slS n w b3 d.br) :
    Calls Tryd.prog 26 #[.agg (btC d a1 a2 a3 c1 c2 c3).toArray, .agg (btC d b1 b2 b3 e1 e2 e3).toArray] w fun r w' => r = .returned (.bool true) ∧ Below w.heap.size w w' := by
  have K0 := fun (W : World) (hB : Below n w W) (h2 : n ≤ W.heap.size) => sameLight_any d.l a1 b1 c1 e1 n hlen.1 W h2 (slS_below hB p0) (slS_below hB q0)
  have K1 := fun (W : World) (hB : Below n w W) (h2 : n ≤ W.heap.size) => sameComm_any d.c a2 b2 c2 e2 n hlen.2.1 W h2 (slS_below hB p1) (slS_below hB q1)
  have K2 := fun (W : World) (hB : Below n w W) (h2 : n ≤ W.heap.size) => same8_any d.br d.br hlen.2.2 hlen.2.2 a3 b3 c3 e3 n W h2 (slS_below hB p2) (slS_below hB q2)
  simp only [ltV, cmV] at K0 K1 K2
  simp only [btC]
  obtain ⟨N1, hN1⟩ : ∃ N, d.l.br.length = N := ⟨_, rfl⟩
  obtain ⟨N2, hN2⟩ : ∃ N, d.c.ks.length = N := ⟨_, rfl⟩
  obtain ⟨N3, hN3⟩ : ∃ N, d.br.length = N := ⟨_, rfl⟩
  rw [hN1] at K0 ⊢
  rw [hN2] at K1 ⊢
  rw [hN3] at K2 ⊢
  clear hN1 p0 q0 hN2 p1 q1 hN3 p2 q2 hlen
  obtain ⟨⟨f0, f1, f2, f3, f4, f5, f6, f7, _⟩, ⟨_, f8⟩, _⟩ := d
  dsimp only at K0 K1 ⊢
  obtain ⟨A0, h0, h1⟩ := two_boxes w (.cells #[.int .u64 (f0 : Int), .int .u64 (f1 : Int), .string f2, .string f3, .string f4, .string f5, .string f6, .int .u64 (f7 : Int), .slice a1 N1 c1, .slice a2 N2 c2, .string f8, .slice a3 N3 c3] 41) (.cells #[.int .u64 (f0 : Int), .int .u64 (f1 : Int), .string f2, .string f3, .string f4, .string f5, .string f6, .int .u64 (f7 : Int), .slice b1 N1 e1, .slice b2 N2 e2, .string f8, .slice b3 N3 e3] 41)
  obtain ⟨w1, hw1⟩ : ∃ W, (w.alloc (.cells #[.int .u64 (f0 : Int), .int .u64 (f1 : Int), .string f2, .string f3, .string f4, .string f5, .string f6, .int .u64 (f7 : Int), .slice a1 N1 c1, .slice a2 N2 c2, .string f8, .slice a3 N3 c3] 41)).alloc (.cells #[.int .u64 (f0 : Int), .int .u64 (f1 : Int), .string f2, .string f3, .string f4, .string f5, .string f6, .int .u64 (f7 : Int), .slice b1 N1 e1, .slice b2 N2 e2, .string f8, .slice b3 N3 e3] 41) = W := ⟨_, rfl⟩
  obtain ⟨y, hy⟩ : ∃ y, w.heap.size = y := ⟨_, rfl⟩
  have HY : Hid (w.heap.size = y) := hy
  have hsz1 : w1.heap.size = y + 2 := by rw [← hw1, ← hy]; simp
  rw [hw1] at A0 h0 h1
  rw [hy] at A0 h0 h1 hn
  have HC : Hid (∀ W : World, Below w1.heap.size w1 W → Hid (Below n w W ∧ n ≤ W.heap.size ∧ Below y w W ∧ (W.cell? ⟨y, 0, none⟩ = some (.int .u64 (f0 : Int)) ∧ W.cell? ⟨y, 1, none⟩ = some (.int .u64 (f1 : Int)) ∧ W.cell? ⟨y, 2, none⟩ = some (.string f2) ∧ W.cell? ⟨y, 3, none⟩ = some (.string f3) ∧ W.cell? ⟨y, 4, none⟩ = some (.string f4) ∧ W.cell? ⟨y, 5, none⟩ = some (.string f5) ∧ W.cell? ⟨y, 6, none⟩ = some (.string f6) ∧ W.cell? ⟨y, 7, none⟩ = some (.int .u64 (f7 : Int)) ∧ W.cell? ⟨y, 8, none⟩ = some (.slice a1 N1 c1) ∧ W.cell? ⟨y, 9, none⟩ = some (.slice a2 N2 c2) ∧ W.cell? ⟨y, 10, none⟩ = some (.string f8) ∧ W.cell? ⟨y, 11, none⟩ = some (.slice a3 N3 c3)) ∧ (W.cell? ⟨y + 1, 0, none⟩ = some (.int .u64 (f0 : Int)) ∧ W.cell? ⟨y + 1, 1, none⟩ = some (.int .u64 (f1 : Int)) ∧ W.cell? ⟨y + 1, 2, none⟩ = some (.string f2) ∧ W.cell? ⟨y + 1, 3, none⟩ = some (.string f3) ∧ W.cell? ⟨y + 1, 4, none⟩ = some (.string f4) ∧ W.cell? ⟨y + 1, 5, none⟩ = some (.string f5) ∧ W.cell? ⟨y + 1, 6, none⟩ = some (.string f6) ∧ W.cell? ⟨y + 1, 7, none⟩ = some (.int .u64 (f7 : Int)) ∧ W.cell? ⟨y + 1, 8, none⟩ = some (.slice b1 N1 e1) ∧ W.cell? ⟨y + 1, 9, none⟩ = some (.slice b2 N2 e2) ∧ W.cell? ⟨y + 1, 10, none⟩ = some (.string f8) ∧ W.cell? ⟨y + 1, 11, none⟩ = some (.slice b3 N3 e3)))) := fun W hB => by
    have r0 := (hB.block y (by omega)).trans h0
    have r1 := (hB.block (y + 1) (by omega)).trans h1
    have hB2 : Below y w W := A0.trans (hB.mono (by omega))
    have := hB.size
    exact ⟨hB2.mono hn, by omega, hB2, ⟨by rw [Lib.cell_of_heap r0]; rfl, by rw [Lib.cell_of_heap r0]; rfl, by rw [Lib.cell_of_heap r0]; rfl, by rw [Lib.cell_of_heap r0]; rfl, by rw [Lib.cell_of_heap r0]; rfl, by rw [Lib.cell_of_heap r0]; rfl, by rw [Lib.cell_of_heap r0]; rfl, by rw [Lib.cell_of_heap r0]; rfl, by rw [Lib.cell_of_heap r0]; rfl, by rw [Lib.cell_of_heap r0]; rfl, by rw [Lib.cell_of_heap r0]; rfl, by rw [Lib.cell_of_heap r0]; rfl⟩, ⟨by rw [Lib.cell_of_heap r1]; rfl, by rw [Lib.cell_of_heap r1]; rfl, by rw [Lib.cell_of_heap r1]; rfl, by rw [Lib.cell_of_heap r1]; rfl, by rw [Lib.cell_of_heap r1]; rfl, by rw [Lib.cell_of_heap r1]; rfl, by rw [Lib.cell_of_heap r1]; rfl, by rw [Lib.cell_of_heap r1]; rfl, by rw [Lib.cell_of_heap r1]; rfl, by rw [Lib.cell_of_heap r1]; rfl, by rw [Lib.cell_of_heap r1]; rfl, by rw [Lib.cell_of_heap r1]; rfl⟩⟩
  clear A0 h0 h1
  go_enter Tryd.func26, Tryd.ntmps26
  have Cw1 : Below w1.heap.size w1 w1 := Below.refl _ _
  obtain ⟨hb, hs, -, ⟨x0, x1, x2, x3, x4, x5, x6, x7, x8, -, -, -⟩, ⟨z0, z1, z2, z3, z4, z5, z6, z7, z8, -, -, -⟩⟩ := (HC.out w1 Cw1).out
  have KK := K0 w1 hb hs
  clear hb hs K0
  go_wp2_with fail
  first | rw [hw1] | skip
  clear hw1 hy
  refine KK.mono ?_
  rintro r w2 ⟨rfl, B2⟩
  have Cw2 := Cw1.trans (B2.mono Cw1.size)
  clear B2 Cw1 KK x0 z0 x1 z1 x2 z2 x3 z3 x4 z4 x5 z5 x6 z6 x7 z7 x8 z8
  obtain ⟨hb, hs, -, ⟨-, -, -, -, -, -, -, -, -, x9, x10, -⟩, ⟨-, -, -, -, -, -, -, -, -, z9, z10, -⟩⟩ := (HC.out w2 Cw2).out
  have KK := K1 w2 hb hs
  clear hb hs K1
  go_wp2_with fail
  refine KK.mono ?_
  rintro r w3 ⟨rfl, B2⟩
  have Cw3 := Cw2.trans (B2.mono Cw2.size)
  clear B2 Cw2 KK x9 z9 x10 z10
  obtain ⟨hb, hs, -, ⟨-, -, -, -, -, -, -, -, -, -, -, x11⟩, ⟨-, -, -, -, -, -, -, -, -, -, -, z11⟩⟩ := (HC.out w3 Cw3).out
  have KK := K2 w3 hb hs
  clear hb hs K2
  go_wp2_with fail
  refine KK.mono ?_
  rintro r w4 ⟨rfl, B2⟩
  have Cw4 := Cw3.trans (B2.mono Cw3.size)
  clear B2 Cw3 KK x11 z11
  first | rw [decide_eq_true trivial] | rw [decide_eq_true rfl]
  obtain ⟨-, -, hB2, -, -⟩ := (HC.out w4 Cw4).out
  have HX : Hid _ := hB2
  clear hB2 Cw4 HC
  go_wp2
  go_ret
  exact ⟨by simp, by rw [HY.out]; exact HX.out⟩
set_option maxRecDepth 100000 in
set_option maxHeartbeats 4000000 in
theorem sameUpd_any (d : UpD) (a1 a2 a3 a4 a5 b1 b2 b3 b4 b5 : Option Addr) (c1 c2 c3 c4 c5 e1 e2 e3 e4 e5 n : Nat) (hlen : d.l.br.length < 1000000 ∧ d.c.ks.length < 1000000 ∧ d.nb.length < 1000000 ∧ d.f.br.length < 1000000 ∧ d.fb.length < 1000000) (w : World) (hn : n ≤ w.heap.size) (p0 : slS n w a1 d.l.br) (q0 : slS n w b1 d.l.br) (p1 : slS n w a2 d.c.ks) (q1 : slS n w b2 d.c.ks) (p2 : slS n w a3 d.nb) (q2 : slS n w b3 d.nb) (p3 : slS n w a4 d.f.br) (q3 : slS n w b4 d.f.br) (p4 : slS n w a5 d.fb) (q4 : slS n w b5 d.fb) :
    Calls Tryd.prog 27 #[.agg (upC d a1 a2 a3 a4 a5 c1 c2 c3 c4 c5).toArray, .agg (upC d b1 b2 b3 b4 b5 e1 e2 e3 e4 e5).toArray] w fun r w' => r = .returned (.bool true) ∧ Below w.heap.size w w' := by
  have K0 := fun (W : World) (hB : Below n w W) (h2 : n ≤ W.heap.size) => sameLight_any d.l a1 b1 c1 e1 n hlen.1 W h2 (slS_below hB p0) (slS_below hB q0)
  have K1 := fun (W : World) (hB : Below n w W) (h2 : n ≤ W.heap.size) => sameComm_any d.c a2 b2 c2 e2 n hlen.2.1 W h2 (slS_below hB p1) (slS_below hB q1)
  have K2 := fun (W : World) (hB : Below n w W) (h2 : n ≤ W.heap.size) => same8_any d.nb d.nb hlen.2.2.1 hlen.2.2.1 a3 b3 c3 e3 n W h2 (slS_below hB p2) (slS_below hB q2)
  have K3 := fun (W : World) (hB : Below n w W) (h2 : n ≤ W.heap.size) => sameLight_any d.f a4 b4 c4 e4 n hlen.2.2.2.1 W h2 (slS_below hB p3) (slS_below hB q3)
  have K4 := fun (W : World) (hB : Below n w W) (h2 : n ≤ W.heap.size) => same8_any d.fb d.fb hlen.2.2.2.2 hlen.2.2.2.2 a5 b5 c5 e5 n W h2 (slS_below hB p4) (slS_below hB q4)
  simp only [ltV, cmV] at K0 K1 K2 K3 K4
  simp only [upC]
  obtain ⟨N1, hN1⟩ : ∃ N, d.l.br.length = N := ⟨_, rfl⟩
  obtain ⟨N2, hN2⟩ : ∃ N, d.c.ks.length = N := ⟨_, rfl⟩
  obtain ⟨N3, hN3⟩ : ∃ N, d.nb.length = N := ⟨_, rfl⟩
  obtain ⟨N4, hN4⟩ : ∃ N, d.f.br.length = N := ⟨_, rfl⟩
  obtain ⟨N5, hN5⟩ : ∃ N, d.fb.length = N := ⟨_, rfl⟩
  rw [hN1] at K0 ⊢
  rw [hN2] at K1 ⊢
  rw [hN3] at K2 ⊢
  rw [hN4] at K3 ⊢
  rw [hN5] at K4 ⊢
  clear hN1 p0 q0 hN2 p1 q1 hN3 p2 q2 hN4 p3 q3 hN5 p4 q4 hlen
  obtain ⟨⟨f0, f1, f2, f3, f4, f5, f6, f7, _⟩, ⟨_, f8⟩, _, ⟨f9, f10, f11, f12, f13, f14, f15, f16, _⟩, _, f17, f18, f19⟩ := d
  dsimp only at K0 K1 K3 ⊢
  obtain ⟨A0, h0, h1⟩ := two_boxes w (.cells #[.int .u64 (f0 : Int), .int .u64 (f1 : Int), .string f2, .string f3, .string f4, .string f5, .string f6, .int .u64 (f7 : Int), .slice a1 N1 c1, .slice a2 N2 c2, .string f8, .slice a3 N3 c3, .int .u64 (f9 : Int), .int .u64 (f10 : Int), .string f11, .string f12, .string f13, .string f14, .string f15, .int .u64 (f16 : Int), .slice a4 N4 c4, .slice a5 N5 c5, .int .u64 (f17 : Int), .string f18, .int .u64 (f19 : Int)] 43) (.cells #[.int .u64 (f0 : Int), .int .u64 (f1 : Int), .string f2, .string f3, .string f4, .string f5, .string f6, .int .u64 (f7 : Int), .slice b1 N1 e1, .slice b2 N2 e2, .string f8, .slice b3 N3 e3, .int .u64 (f9 : Int), .int .u64 (f10 : Int), .string f11, .string f12, .string f13, .string f14, .string f15, .int .u64 (f16 : Int), .slice b4 N4 e4, .slice b5 N5 e5, .int .u64 (f17 : Int), .string f18, .int .u64 (f19 : Int)] 43)
  obtain ⟨w1, hw1⟩ : ∃ W, (w.alloc (.cells #[.int .u64 (f0 : Int), .int .u64 (f1 : Int), .string f2, .string f3, .string f4, .string f5, .string f6, .int .u64 (f7 : Int), .slice a1 N1 c1, .slice a2 N2 c2, .string f8, .slice a3 N3 c3, .int .u64 (f9 : Int), .int .u64 (f10 : Int), .string f11, .string f12, .string f13, .string f14, .string f15, .int .u64 (f16 : Int), .slice a4 N4 c4, .slice a5 N5 c5, .int .u64 (f17 : Int), .string f18, .int .u64 (f19 : Int)] 43)).alloc (.cells #[.int .u64 (f0 : Int), .int .u64 (f1 : Int), .string f2, .string f3, .string f4, .string f5, .string f6, .int .u64 (f7 : Int), .slice b1 N1 e1, .slice b2 N2 e2, .string f8, .slice b3 N3 e3, .int .u64 (f9 : Int), .int .u64 (f10 : Int), .string f11, .string f12, .string f13, .string f14, .string f15, .int .u64 (f16 : Int), .slice b4 N4 e4, .slice b5 N5 e5, .int .u64 (f17 : Int), .string f18, .int .u64 (f19 : Int)] 43) = W := ⟨_, rfl⟩
  obtain ⟨y, hy⟩ : ∃ y, w.heap.size = y := ⟨_, rfl⟩
  have HY : Hid (w.heap.size = y) := hy
  have hsz1 : w1.heap.size = y + 2 := by rw [← hw1, ← hy]; simp
  rw [hw1] at A0 h0 h1
  rw [hy] at A0 h0 h1 hn
  have HC : Hid (∀ W : World, Below w1.heap.size w1 W → Hid (Below n w W ∧ n ≤ W.heap.size ∧ Below y w W ∧ (W.cell? ⟨y, 0, none⟩ = some (.int .u64 (f0 : Int)) ∧ W.cell? ⟨y, 1, none⟩ = some (.int .u64 (f1 : Int)) ∧ W.cell? ⟨y, 2, none⟩ = some (.string f2) ∧ W.cell? ⟨y, 3, none⟩ = some (.string f3) ∧ W.cell? ⟨y, 4, none⟩ = some (.string f4) ∧ W.cell? ⟨y, 5, none⟩ = some (.string f5) ∧ W.cell? ⟨y, 6, none⟩ = some (.string f6) ∧ W.cell? ⟨y, 7, none⟩ = some (.int .u64 (f7 : Int)) ∧ W.cell? ⟨y, 8, none⟩ = some (.slice a1 N1 c1) ∧ W.cell? ⟨y, 9, none⟩ = some (.slice a2 N2 c2) ∧ W.cell? ⟨y, 10, none⟩ = some (.string f8) ∧ W.cell? ⟨y, 11, none⟩ = some (.slice a3 N3 c3) ∧ W.cell? ⟨y, 12, none⟩ = some (.int .u64 (f9 : Int)) ∧ W.cell? ⟨y, 13, none⟩ = some (.int .u64 (f10 : Int)) ∧ W.cell? ⟨y, 14, none⟩ = some (.string f11) ∧ W.cell? ⟨y, 15, none⟩ = some (.string f12) ∧ W.cell? ⟨y, 16, none⟩ = some (.string f13) ∧ W.cell? ⟨y, 17, none⟩ = some (.string f14) ∧ W.cell? ⟨y, 18, none⟩ = some (.string f15) ∧ W.cell? ⟨y, 19, none⟩ = some (.int .u64 (f16 : Int)) ∧ W.cell? ⟨y, 20, none⟩ = some (.slice a4 N4 c4) ∧ W.cell? ⟨y, 21, none⟩ = some (.slice a5 N5 c5) ∧ W.cell? ⟨y, 22, none⟩ = some (.int .u64 (f17 : Int)) ∧ W.cell? ⟨y, 23, none⟩ = some (.string f18) ∧ W.cell? ⟨y, 24, none⟩ = some (.int .u64 (f19 : Int))) ∧ (W.cell? ⟨y + 1, 0, none⟩ = some (.int .u64 (f0 : Int)) ∧ W.cell? ⟨y + 1, 1, none⟩ = some (.int .u64 (f1 : Int)) ∧ W.cell? ⟨y + 1, 2, none⟩ = some (.string f2) ∧ W.cell? ⟨y + 1, 3, none⟩ = some (.string f3) ∧ W.cell? ⟨y + 1, 4, none⟩ = some (.string f4) ∧ W.cell? ⟨y + 1, 5, none⟩ = some (.string f5) ∧ W.cell? ⟨y + 1, 6, none⟩ = some (.string f6) ∧ W.cell? ⟨y + 1, 7, none⟩ = some (.int .u64 (f7 : Int)) ∧ W.cell? ⟨y + 1, 8, none⟩ = some (.slice b1 N1 e1) ∧ W.cell? ⟨y + 1, 9, none⟩ = some (.slice b2 N2 e2) ∧ W.cell? ⟨y + 1, 10, none⟩ = some (.string f8) ∧ W.cell? ⟨y + 1, 11, none⟩ = some (.slice b3 N3 e3) ∧ W.cell? ⟨y + 1, 12, none⟩ = some (.int .u64 (f9 : Int)) ∧ W.cell? ⟨y + 1, 13, none⟩ = some (.int .u64 (f10 : Int)) ∧ W.cell? ⟨y + 1, 14, none⟩ = some (.string f11) ∧ W.cell? ⟨y + 1, 15, none⟩ = some (.string f12) ∧ W.cell? ⟨y + 1, 16, none⟩ = some (.string f13) ∧ W.cell? ⟨y + 1, 17, none⟩ = some (.string f14) ∧ W.cell? ⟨y + 1, 18, none⟩ = some (.string f15) ∧ W.cell? ⟨y + 1, 19, none⟩ = some (.int .u64 (f16 : Int)) ∧ W.cell? ⟨y + 1, 20, none⟩ = some (.slice b4 N4 e4) ∧ W.cell? ⟨y + 1, 21, none⟩ = some (.slice b5 N5 e5) ∧ W.cell? ⟨y + 1, 22, none⟩ = some (.int .u64 (f17 : Int)) ∧ W.cell? ⟨y + 1, 23, none⟩ = some (.string f18) ∧ W.cell? ⟨y + 1, 24, none⟩ = some (.int .u64 (f19 : Int))))) := fun W hB => by
    have r0 := (hB.block y (by omega)).trans h0
    have r1 := (hB.block (y + 1) (by omega)).trans h1
    have hB2 : Below y w W := A0.trans (hB.mono (by omega))
    have := hB.size
    exact ⟨hB2.mono hn, by omega, hB2, ⟨by rw [Lib.cell_of_heap r0]; rfl, by rw [Lib.cell_of_heap r0]; rfl, by rw [Lib.cell_of_heap r0]; rfl, by rw [Lib.cell_of_heap r0]; rfl, by rw [Lib.cell_of_heap r0]; rfl, by rw [Lib.cell_of_heap r0]; rfl, by rw [Lib.cell_of_heap r0]; rfl, by rw [Lib.cell_of_heap r0]; rfl, by rw [Lib.cell_of_heap r0]; rfl, by rw [Lib.cell_of_heap r0]; rfl, by rw [Lib.cell_of_heap r0]; rfl, by rw [Lib.cell_of_heap r0]; rfl, by rw [Lib.cell_of_heap r0]; rfl, by rw [Lib.cell_of_heap r0]; rfl, by rw [Lib.cell_of_heap r0]; rfl, by rw [Lib.cell_of_heap r0]; rfl, by rw [Lib.cell_of_heap r0]; rfl, by rw [Lib.cell_of_heap r0]; rfl, by rw [Lib.cell_of_heap r0]; rfl, by rw [Lib.cell_of_heap r0]; rfl, by rw [Lib.cell_of_heap r0]; rfl, by rw [Lib.cell_of_heap r0]; rfl, by rw [Lib.cell_of_heap r0]; rfl, by rw [Lib.cell_of_heap r0]; rfl, by rw [Lib.cell_of_heap r0]; rfl⟩, ⟨by rw [Lib.cell_of_heap r1]; rfl, by rw [Lib.cell_of_heap r1]; rfl, by rw [Lib.cell_of_heap r1]; rfl, by rw [Lib.cell_of_heap r1]; rfl, by rw [Lib.cell_of_heap r1]; rfl, by rw [Lib.cell_of_heap r1]; rfl, by rw [Lib.cell_of_heap r1]; rfl, by rw [Lib.cell_of_heap r1]; rfl, by rw [Lib.cell_of_heap r1]; rfl, by rw [Lib.cell_of_heap r1]; rfl, by rw [Lib.cell_of_heap r1]; rfl, by rw [Lib.cell_of_heap r1]; rfl, by rw [Lib.cell_of_heap r1]; rfl, by rw [Lib.cell_of_heap r1]; rfl, by rw [Lib.cell_of_heap r1]; rfl, by rw [Lib.cell_of_heap r1]; rfl, by rw [Lib.cell_of_heap r1]; rfl, by rw [Lib.cell_of_heap r1]; rfl, by rw [Lib.cell_of_heap r1]; rfl, by rw [Lib.cell_of_heap r1]; rfl, by rw [Lib.cell_of_heap r1]; rfl, by rw [Lib.cell_of_heap r1]; rfl, by rw [Lib.cell_of_heap r1]; rfl, by rw [Lib.cell_of_heap r1]; rfl, by rw [Lib.cell_of_heap r1]; rfl⟩⟩
  clear A0 h0 h1
  go_enter Tryd.func27, Tryd.ntmps27
  have Cw1 : Below w1.heap.size w1 w1 := Below.refl _ _
  obtain ⟨hb, hs, -, ⟨x0, x1, x2, x3, x4, x5, x6, x7, x8, -, -, -, -, -, -, -, -, -, -, -, -, -, -, -, -⟩, ⟨z0, z1, z2, z3, z4, z5, z6, z7, z8, -, -, -, -, -, -, -, -, -, -, -, -, -, -, -, -⟩⟩ := (HC.out w1 Cw1).out
  have KK := K0 w1 hb hs
  clear hb hs K0
  go_wp2_with fail
  first | rw [hw1] | skip
  clear hw1 hy
  refine KK.mono ?_
  rintro r w2 ⟨rfl, B2⟩
  have Cw2 := Cw1.trans (B2.mono Cw1.size)
  clear B2 Cw1 KK x0 z0 x1 z1 x2 z2 x3 z3 x4 z4 x5 z5 x6 z6 x7 z7 x8 z8
  obtain ⟨hb, hs, -, ⟨-, -, -, -, -, -, -, -, -, -, -, -, x12, x13, x14, x15, x16, x17, x18, x19, x20, -, -, -, -⟩, ⟨-, -, -, -, -, -, -, -, -, -, -, -, z12, z13, z14, z15, z16, z17, z18, z19, z20, -, -, -, -⟩⟩ := (HC.out w2 Cw2).out
  have KK := K3 w2 hb hs
  clear hb hs K3
  go_wp2_with fail
  refine KK.mono ?_
  rintro r w3 ⟨rfl, B2⟩
  have Cw3 := Cw2.trans (B2.mono Cw2.size)
  clear B2 Cw2 KK x12 z12 x13 z13 x14 z14 x15 z15 x16 z16 x17 z17 x18 z18 x19 z19 x20 z20
  obtain ⟨hb, hs, -, ⟨-, -, -, -, -, -, -, -, -, x9, x10, -, -, -, -, -, -, -, -, -, -, -, -, -, -⟩, ⟨-, -, -, -, -, -, -, -, -, z9, z10, -, -, -, -, -, -, -, -, -, -, -, -, -, -⟩⟩ := (HC.out w3 Cw3).out
  have KK := K1 w3 hb hs
  clear hb hs K1
  go_wp2_with fail
  refine KK.mono ?_
  rintro r w4 ⟨rfl, B2⟩
  have Cw4 := Cw3.trans (B2.mono Cw3.size)
  clear B2 Cw3 KK x9 z9 x10 z10
  obtain ⟨hb, hs, -, ⟨-, -, -, -, -, -, -, -, -, -, -, x11, -, -, -, -, -, -, -, -, -, -, -, -, -⟩, ⟨-, -, -, -, -, -, -, -, -, -, -, z11, -, -, -, -, -, -, -, -, -, -, -, -, -⟩⟩ := (HC.out w4 Cw4).out
  have KK := K2 w4 hb hs
  clear hb hs K2
  go_wp2_with fail
  refine KK.mono ?_
  rintro r w5 ⟨rfl, B2⟩
  have Cw5 := Cw4.trans (B2.mono Cw4.size)
  clear B2 Cw4 KK x11 z11
  first | rw [decide_eq_true trivial] | rw [decide_eq_true rfl]
  obtain ⟨hb, hs, -, ⟨-, -, -, -, -, -, -, -, -, -, -, -, -, -, -, -, -, -, -, -, -, x21, -, -, -⟩, ⟨-, -, -, -, -, -, -, -, -, -, -, -, -, -, -, -, -, -, -, -, -, z21, -, -, -⟩⟩ := (HC.out w5 Cw5).out
  have KK := K4 w5 hb hs
  clear hb hs K4
  go_wp2_with fail
  refine KK.mono ?_
  rintro r w6 ⟨rfl, B2⟩
  have Cw6 := Cw5.trans (B2.mono Cw5.size)
  clear B2 Cw5 KK x21 z21
  first | rw [decide_eq_true trivial] | rw [decide_eq_true rfl]
  obtain ⟨-, -, hB2, ⟨-, -, -, -, -, -, -, -, -, -, -, -, -, -, -, -, -, -, -, -, -, -, x22, x23, x24⟩, ⟨-, -, -, -, -, -, -, -, -, -, -, -, -, -, -, -, -, -, -, -, -, -, z22, z23, z24⟩⟩ := (HC.out w6 Cw6).out
  have HX : Hid _ := hB2
  clear hB2 Cw6 HC
  go_wp2
  go_ret
  exact ⟨by simp, by rw [HY.out]; exact HX.out⟩
end Go.Proofs.YtmefanagpkbjeaaDoor
