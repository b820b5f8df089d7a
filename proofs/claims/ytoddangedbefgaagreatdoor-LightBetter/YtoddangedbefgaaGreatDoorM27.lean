/- Lemmas: The reference's Same of Lights and committees, what a message has. No condition. The reference's Same of messages and of stores: of any two. No condition but on lists that no machine has. The reference's words on those that sign, and its Better. No condition. The reference's Better: which of two messages is better. No condition. Better's order: the merits decide as the document says; and it is an order. No condition. The law LightBetter, walked. No condition. -/
import Derived.Test.YtoddangedbefgaaGreatDoorM1
import Derived.Test.YtoddangedbefgaaGreatDoorM10
import Derived.Test.YtoddangedbefgaaGreatDoorM11
import Derived.Test.YtoddangedbefgaaGreatDoorM12
import Derived.Test.YtoddangedbefgaaGreatDoorM13
import Derived.Test.YtoddangedbefgaaGreatDoorM14
import Derived.Test.YtoddangedbefgaaGreatDoorM15
import Derived.Test.YtoddangedbefgaaGreatDoorM16
import Derived.Test.YtoddangedbefgaaGreatDoorM18
import Derived.Test.YtoddangedbefgaaGreatDoorM19
import Derived.Test.YtoddangedbefgaaGreatDoorM2
import Derived.Test.YtoddangedbefgaaGreatDoorM20
import Derived.Test.YtoddangedbefgaaGreatDoorM21
import Derived.Test.YtoddangedbefgaaGreatDoorM22
import Derived.Test.YtoddangedbefgaaGreatDoorM23
import Derived.Test.YtoddangedbefgaaGreatDoorM24
import Derived.Test.YtoddangedbefgaaGreatDoorM25
import Derived.Test.YtoddangedbefgaaGreatDoorM26
import Derived.Test.YtoddangedbefgaaGreatDoorM3
import Derived.Test.YtoddangedbefgaaGreatDoorM4
import Derived.Test.YtoddangedbefgaaGreatDoorM5
import Derived.Test.YtoddangedbefgaaGreatDoorM6
import Derived.Test.YtoddangedbefgaaGreatDoorM7
import Derived.Test.YtoddangedbefgaaGreatDoorM8
import Derived.Test.YtoddangedbefgaaGreatDoorM9
import Derived.Test.YtoddangedbefgaaGreatDoorRows
namespace Go.Proofs.YtoddangedbefgaaGreatDoor
open Go.RowKit Go.Shelf Go.Sort

def eqLt (d e : LtD) : Bool := decide (d.s = e.s ∧ d.u = e.u ∧ d.p = e.p ∧ d.t = e.t ∧ d.b = e.b) && decide (d.ea = e.ea ∧ d.ra = e.ra ∧ d.m = e.m) && decide (d.br = e.br)
theorem eqLt_iff (d e : LtD) : eqLt d e = true ↔ d = e := by
  obtain ⟨s, u, p, t, b, ea, ra, m, br⟩ := d
  obtain ⟨s', u', p', t', b', ea', ra', m', br'⟩ := e
  unfold eqLt
  simp only [Bool.and_eq_true, decide_eq_true_eq, LtD.mk.injEq]
  constructor
  · rintro ⟨⟨⟨h1, h2, h3, h4, h5⟩, h6, h7, h8⟩, h9⟩
    exact ⟨h1, h2, h3, h4, h5, h6, h7, h8, h9⟩
  · rintro ⟨h1, h2, h3, h4, h5, h6, h7, h8, h9⟩
    exact ⟨⟨⟨h1, h2, h3, h4, h5⟩, h6, h7, h8⟩, h9⟩
def eqCm (d e : CmD) : Bool := decide (d.sm = e.sm) && decide (d.ks = e.ks)
theorem eqCm_iff (d e : CmD) : eqCm d e = true ↔ d = e := by
  obtain ⟨k, s⟩ := d
  obtain ⟨k', s'⟩ := e
  unfold eqCm
  simp only [Bool.and_eq_true, decide_eq_true_eq, CmD.mk.injEq]
  exact ⟨fun h => ⟨h.2, h.1⟩, fun h => ⟨h.2, h.1⟩⟩
def Lg (xs : List ByteArray) : Prop := xs.length < 1000000000000000000
set_option maxRecDepth 100000 in
set_option maxHeartbeats 4000000 in
theorem sameLt_any (d e : LtD) (hd : Lg d.br) (he : Lg e.br) (q r : Pl) (n : Nat) (w : World) (hn : n ≤ w.heap.size) (hp : slS n w q.a d.br) (hr : slS n w r.a e.br) :
    Calls Tryz.prog 30 #[.agg (ltV d q).toArray, .agg (ltV e r).toArray] w fun x w' => x = .returned (.bool (eqLt d e)) ∧ Below w.heap.size w w' := by
  obtain ⟨s, u, p, t, b, ea, ra, m, br⟩ := d
  obtain ⟨s', u', p', t', b', ea', ra', m', br'⟩ := e
  have E1 := eqlH s u s' u' p t b p' t' b'
  have E2 := eqlX m m' ea ra ea' ra'
  have KS := fun (W : World) (hB : Below w.heap.size w W) => same8_any br br' hd he q.a r.a q.c r.c n W (Nat.le_trans hn hB.size) (slS_below (hB.mono hn) hp) (slS_below (hB.mono hn) hr)
  unfold eqLt
  simp only [ltV]
  obtain ⟨e1, h1⟩ : ∃ e, decide (s = s' ∧ u = u' ∧ p = p' ∧ t = t' ∧ b = b') = e := ⟨_, rfl⟩
  obtain ⟨e2, h2⟩ : ∃ e, decide (ea = ea' ∧ ra = ra' ∧ m = m') = e := ⟨_, rfl⟩
  obtain ⟨e3, h3⟩ : ∃ e, decide (br = br') = e := ⟨_, rfl⟩
  obtain ⟨N, hN⟩ : ∃ n, br.length = n := ⟨_, rfl⟩
  obtain ⟨M, hM⟩ : ∃ n, br'.length = n := ⟨_, rfl⟩
  rw [h1] at E1 ⊢
  rw [h2] at E2 ⊢
  rw [h3] at KS ⊢
  rw [hN, hM] at KS ⊢
  clear h1 h2 h3 hN hM hd he hp hr hn
  have B1 := (box2 w (.cells #[.int .u64 (s : Int), .int .u64 (u : Int), .string p, .string t, .string b, .string ea, .string ra, .int .u64 (m : Int), .slice q.a N q.c] 29) (.cells #[.int .u64 (s' : Int), .int .u64 (u' : Int), .string p', .string t', .string b', .string ea', .string ra', .int .u64 (m' : Int), .slice r.a M r.c] 29)).1
  have KS0 := KS _ B1
  have HB : Hid _ := B1
  clear B1 KS
  go_enter Tryz.func30, Tryz.ntmps30
  cases e1 with
  | false =>
    go_wp2
    go_ret
    exact ⟨by simp, HB.out⟩
  | true =>
    cases e2 with
    | false =>
      go_wp2
      go_ret
      exact ⟨by simp, HB.out⟩
    | true =>
      go_wp2_with fail
      refine KS0.mono ?_
      rintro x w2 ⟨rfl, B2⟩
      have HX : Hid _ := belowStep HB.out HB.out.size B2
      clear B2 KS0 HB E1 E2
      go_wp2
      go_ret
      exact ⟨by simp, HX.out⟩
set_option maxRecDepth 100000 in
set_option maxHeartbeats 4000000 in
theorem sameCm_any (d e : CmD) (hd : Lg d.ks) (he : Lg e.ks) (q r : Pl) (n : Nat) (w : World) (hn : n ≤ w.heap.size) (hp : slS n w q.a d.ks) (hr : slS n w r.a e.ks) :
    Calls Tryz.prog 31 #[.agg (cmV d q).toArray, .agg (cmV e r).toArray] w fun x w' => x = .returned (.bool (eqCm d e)) ∧ Below w.heap.size w w' := by
  obtain ⟨ks, sm⟩ := d
  obtain ⟨ks', sm'⟩ := e
  have KS := fun (W : World) (hB : Below w.heap.size w W) => same8_any ks ks' hd he q.a r.a q.c r.c n W (Nat.le_trans hn hB.size) (slS_below (hB.mono hn) hp) (slS_below (hB.mono hn) hr)
  unfold eqCm
  simp only [cmV]
  obtain ⟨e3, h3⟩ : ∃ e, decide (ks = ks') = e := ⟨_, rfl⟩
  obtain ⟨N, hN⟩ : ∃ n, ks.length = n := ⟨_, rfl⟩
  obtain ⟨M, hM⟩ : ∃ n, ks'.length = n := ⟨_, rfl⟩
  rw [h3] at KS ⊢
  rw [hN, hM] at KS ⊢
  clear h3 hN hM hd he hp hr hn
  have B1 := (box2 w (.cells #[.slice q.a N q.c, .string sm] 31) (.cells #[.slice r.a M r.c, .string sm'] 31)).1
  have KS0 := KS _ B1
  have HB : Hid _ := B1
  clear B1 KS
  go_enter Tryz.func31, Tryz.ntmps31
  by_cases h : sm = sm'
  · have hs : (sm.toList == sm'.toList) = true := by rw [h]; exact beq_self_eq_true _
    rw [decide_eq_true h]
    clear h
    go_wp2_with fail
    refine KS0.mono ?_
    rintro x w2 ⟨rfl, B2⟩
    have HX : Hid _ := belowStep HB.out HB.out.size B2
    clear B2 KS0 HB
    go_wp2
    go_ret
    exact ⟨by simp, HX.out⟩
  · have hs : (sm.toList == sm'.toList) = false := by rw [beq_eq_false_iff_ne]; exact fun e => h (toList_inj e)
    rw [decide_eq_false h]
    clear h
    go_wp2
    go_ret
    exact ⟨by simp, HB.out⟩
set_option maxHeartbeats 1000000 in
theorem rperiod_any (n : Nat) (hn : U6 n) (w : World) : Calls Tryz.prog 43 #[.int .u64 (n : Int)] w fun e w' => e = .returned (.int .u64 ((n / 64 : Nat) : Int)) ∧ Below w.heap.size w w' := by
  have hn2 : n < 18446744073709551616 := hn
  have hq : IntKind.u64.wrap ((n : Int) / 64) = (n : Int) / 64 := by rw [IntKind.wrap_u64]; omega
  go_enter Tryz.func43, Tryz.ntmps43
  go_wp2
  go_ret
  exact ⟨by simp, Below.refl _ _⟩
set_option maxHeartbeats 1000000 in
theorem rknown_any (d : CmD) (q : Pl) (w : World) : Calls Tryz.prog 58 #[.agg (cmV d q).toArray] w fun x w' => x = .returned (.bool (decide (0 < d.ks.length))) ∧ Below w.heap.size w w' := by
  obtain ⟨L, hL⟩ : ∃ L, (cmV d q).toArray = L := ⟨_, rfl⟩
  obtain ⟨n, hn⟩ : ∃ n, d.ks.length = n := ⟨_, rfl⟩
  have h0 : L[0]? = some (.slice q.a n q.c) := by rw [← hL, ← hn]; rfl
  rw [hL, hn]
  clear hL hn
  have B1 := (box1 w (.cells L 31)).1
  go_enter Tryz.func58, Tryz.ntmps58
  go_wp2
  go_ret
  exact ⟨by simp, B1⟩
set_option maxHeartbeats 1000000 in
theorem rhasNext_any (d : UpD) (q : UpP) (w : World) : Calls Tryz.prog 59 #[.agg (upV d q).toArray] w fun x w' => x = .returned (.bool (hnB d)) ∧ Below w.heap.size w w' := by
  have KK := rknown_any d.c q.c
  have hC := upV_c d q
  unfold hnB
  obtain ⟨b, hb⟩ : ∃ n, decide (0 < d.c.ks.length) = n := ⟨_, rfl⟩
  obtain ⟨m, hm⟩ : ∃ n, d.nb.length = n := ⟨_, rfl⟩
  have h1 : (upV d q).toArray[11]? = some (.slice q.nb.a m q.nb.c) := by rw [← hm]; rfl
  obtain ⟨M, hM⟩ : ∃ M, cmV d.c q.c = M := ⟨_, rfl⟩
  have H2 : Hid (M.length = 2) := show _ by rw [← hM]; rfl
  obtain ⟨L, hL⟩ : ∃ L, upV d q = L := ⟨_, rfl⟩
  rw [hM] at KK hC
  rw [hL] at h1 hC ⊢
  rw [hb] at KK ⊢
  rw [hm]
  clear hL hM hb hm
  obtain ⟨B1, hx, hs⟩ := box1 w (.cells L.toArray 36)
  have R1 := range_of_block hx 9 M hC
  have c0 : (w.alloc (.cells L.toArray 36)).cell? ⟨w.heap.size, 11, none⟩ = some (.slice q.nb.a m q.nb.c) := by rw [Lib.cell_of_heap hx]; exact h1
  go_enter Tryz.func59, Tryz.ntmps59
  go_wp2_with (refine wpList_load_mid rfl 31 _ rfl w.heap.size 9 rfl _ _ R1 Tryz.underlying31 rfl (by rw [H2.out]; kernel_rfl) ?_)
  refine (KK _).mono ?_
  rintro r w2 ⟨rfl, B2⟩
  have BX := belowStep B1 B1.size B2
  have d0 := (B2.cell (p := ⟨w.heap.size, 11, none⟩) (by show w.heap.size < _; omega)).trans c0
  have HB : Hid _ := BX
  clear B2 B1 BX R1 c0 hx hs h1 KK
  cases b with
  | true =>
    go_wp2
    go_ret
    exact ⟨by simp, HB.out⟩
  | false =>
    go_wp2
    go_ret
    exact ⟨by simp, HB.out⟩
end Go.Proofs.YtoddangedbefgaaGreatDoor
namespace Go.Proofs.YtoddangedbefgaaGreatDoor
open Go.RowKit Go.Shelf Go.Sort

def LgU (d : UpD) : Prop := Lg d.l.br ∧ Lg d.c.ks ∧ Lg d.nb ∧ Lg d.f.br ∧ Lg d.fb
def LgT (d : StD) : Prop := Lg d.fin.br ∧ Lg d.new.br ∧ Lg d.now.ks ∧ Lg d.nxt.ks ∧ LgU d.best
def eqUp (a b : UpD) : Bool := eqLt a.l b.l && eqLt a.f b.f && eqCm a.c b.c && decide (a.nb = b.nb) && decide (a.fb = b.fb) && decide (a.bits = b.bits) && decide (a.sig = b.sig) && decide (a.slot = b.slot)
theorem eqUp_iff (a b : UpD) : eqUp a b = true ↔ a = b := by
  obtain ⟨l, c, nb, f, fb, bits, sig, slot⟩ := a
  obtain ⟨l', c', nb', f', fb', bits', sig', slot'⟩ := b
  unfold eqUp
  simp only [Bool.and_eq_true, decide_eq_true_eq, UpD.mk.injEq, eqLt_iff, eqCm_iff]
  constructor
  · rintro ⟨⟨⟨⟨⟨⟨⟨h1, h2⟩, h3⟩, h4⟩, h5⟩, h6⟩, h7⟩, h8⟩
    exact ⟨h1, h3, h4, h2, h5, h6, h7, h8⟩
  · rintro ⟨h1, h3, h4, h2, h5, h6, h7, h8⟩
    exact ⟨⟨⟨⟨⟨⟨⟨h1, h2⟩, h3⟩, h4⟩, h5⟩, h6⟩, h7⟩, h8⟩
def eqSt (a b : StD) : Bool := eqLt a.fin b.fin && eqLt a.new b.new && eqCm a.now b.now && eqCm a.nxt b.nxt && eqUp a.best b.best && decide (a.has = b.has) && decide (a.last = b.last) && decide (a.this = b.this) && decide (a.forced = b.forced)
theorem eqSt_iff (a b : StD) : eqSt a b = true ↔ a = b := by
  obtain ⟨f, n, w, x, u, h, l, t, o⟩ := a
  obtain ⟨f', n', w', x', u', h', l', t', o'⟩ := b
  unfold eqSt
  simp only [Bool.and_eq_true, decide_eq_true_eq, StD.mk.injEq, eqLt_iff, eqCm_iff, eqUp_iff]
  constructor
  · rintro ⟨⟨⟨⟨⟨⟨⟨⟨h1, h2⟩, h3⟩, h4⟩, h5⟩, h6⟩, h7⟩, h8⟩, h9⟩
    exact ⟨h1, h2, h3, h4, h5, h6, h7, h8, h9⟩
  · rintro ⟨h1, h2, h3, h4, h5, h6, h7, h8, h9⟩
    exact ⟨⟨⟨⟨⟨⟨⟨⟨h1, h2⟩, h3⟩, h4⟩, h5⟩, h6⟩, h7⟩, h8⟩, h9⟩
set_option maxRecDepth 100000 in
set_option maxHeartbeats 8000000 in
theorem sameUp_any (a b : UpD) (la : LgU a) (lb : LgU b) (qa qb : UpP) (n : Nat) (w : World) (hn : n ≤ w.heap.size) (hpa : upIn n w a qa) (hpb : upIn n w b qb) :
    Calls Tryz.prog 32 #[.agg (upV a qa).toArray, .agg (upV b qb).toArray] w fun x w' => x = .returned (.bool (eqUp a b)) ∧ Below w.heap.size w w' := by
  have K0 := fun (W : World) (hB : Below w.heap.size w W) => sameLt_any a.l b.l la.1 lb.1 qa.l qb.l n W (Nat.le_trans hn hB.size) (slS_below (hB.mono hn) hpa.1) (slS_below (hB.mono hn) hpb.1)
  have A0 := upV_l a qa
  have B0 := upV_l b qb
  have K1 := fun (W : World) (hB : Below w.heap.size w W) => sameLt_any a.f b.f la.2.2.2.1 lb.2.2.2.1 qa.f qb.f n W (Nat.le_trans hn hB.size) (slS_below (hB.mono hn) hpa.2.2.2.1) (slS_below (hB.mono hn) hpb.2.2.2.1)
  have A1 := upV_f a qa
  have B1 := upV_f b qb
  have K2 := fun (W : World) (hB : Below w.heap.size w W) => sameCm_any a.c b.c la.2.1 lb.2.1 qa.c qb.c n W (Nat.le_trans hn hB.size) (slS_below (hB.mono hn) hpa.2.1) (slS_below (hB.mono hn) hpb.2.1)
  have A2 := upV_c a qa
  have B2 := upV_c b qb
  have K3 := fun (W : World) (hB : Below w.heap.size w W) => same8_any a.nb b.nb la.2.2.1 lb.2.2.1 qa.nb.a qb.nb.a qa.nb.c qb.nb.c n W (Nat.le_trans hn hB.size) (slS_below (hB.mono hn) hpa.2.2.1) (slS_below (hB.mono hn) hpb.2.2.1)
  have A3 : (upV a qa)[11]? = some (.slice qa.nb.a a.nb.length qa.nb.c) := rfl
  have B3 : (upV b qb)[11]? = some (.slice qb.nb.a b.nb.length qb.nb.c) := rfl
  have K4 := fun (W : World) (hB : Below w.heap.size w W) => same8_any a.fb b.fb la.2.2.2.2 lb.2.2.2.2 qa.fb.a qb.fb.a qa.fb.c qb.fb.c n W (Nat.le_trans hn hB.size) (slS_below (hB.mono hn) hpa.2.2.2.2) (slS_below (hB.mono hn) hpb.2.2.2.2)
  have A4 : (upV a qa)[21]? = some (.slice qa.fb.a a.fb.length qa.fb.c) := rfl
  have B4 : (upV b qb)[21]? = some (.slice qb.fb.a b.fb.length qb.fb.c) := rfl
  have A5 : (upV a qa)[22]? = some (.int .u64 (a.bits : Int)) := rfl
  have B5 : (upV b qb)[22]? = some (.int .u64 (b.bits : Int)) := rfl
  have A6 : (upV a qa)[23]? = some (.string a.sig) := rfl
  have B6 : (upV b qb)[23]? = some (.string b.sig) := rfl
  have A7 : (upV a qa)[24]? = some (.int .u64 (a.slot : Int)) := rfl
  have B7 : (upV b qb)[24]? = some (.int .u64 (b.slot : Int)) := rfl
  have HLn : Hid ((upV a qa).length = 25 ∧ (upV b qb).length = 25 ∧ (ltV a.l qa.l).length = 9 ∧ (ltV b.l qb.l).length = 9 ∧ (ltV a.f qa.f).length = 9 ∧ (ltV b.f qb.f).length = 9 ∧ (cmV a.c qa.c).length = 2 ∧ (cmV b.c qb.c).length = 2) := show _ from ⟨rfl, rfl, rfl, rfl, rfl, rfl, rfl, rfl⟩
  unfold eqUp
  obtain ⟨e0, he0⟩ : ∃ e, eqLt a.l b.l = e := ⟨_, rfl⟩
  rw [he0] at K0
  rw [he0]
  obtain ⟨X0, hX0⟩ : ∃ L, ltV a.l qa.l = L := ⟨_, rfl⟩
  rw [hX0] at K0 A0 HLn
  obtain ⟨Y0, hY0⟩ : ∃ L, ltV b.l qb.l = L := ⟨_, rfl⟩
  rw [hY0] at K0 B0 HLn
  obtain ⟨e1, he1⟩ : ∃ e, eqLt a.f b.f = e := ⟨_, rfl⟩
  rw [he1] at K1
  rw [he1]
  obtain ⟨X1, hX1⟩ : ∃ L, ltV a.f qa.f = L := ⟨_, rfl⟩
  rw [hX1] at K1 A1 HLn
  obtain ⟨Y1, hY1⟩ : ∃ L, ltV b.f qb.f = L := ⟨_, rfl⟩
  rw [hY1] at K1 B1 HLn
  obtain ⟨e2, he2⟩ : ∃ e, eqCm a.c b.c = e := ⟨_, rfl⟩
  rw [he2] at K2
  rw [he2]
  obtain ⟨X2, hX2⟩ : ∃ L, cmV a.c qa.c = L := ⟨_, rfl⟩
  rw [hX2] at K2 A2 HLn
  obtain ⟨Y2, hY2⟩ : ∃ L, cmV b.c qb.c = L := ⟨_, rfl⟩
  rw [hY2] at K2 B2 HLn
  obtain ⟨e3, he3⟩ : ∃ e, decide (a.nb = b.nb) = e := ⟨_, rfl⟩
  rw [he3] at K3
  rw [he3]
  obtain ⟨M3, hM3⟩ : ∃ L, a.nb.length = L := ⟨_, rfl⟩
  rw [hM3] at K3 A3
  obtain ⟨N3, hN3⟩ : ∃ L, b.nb.length = L := ⟨_, rfl⟩
  rw [hN3] at K3 B3
  obtain ⟨e4, he4⟩ : ∃ e, decide (a.fb = b.fb) = e := ⟨_, rfl⟩
  rw [he4] at K4
  rw [he4]
  obtain ⟨M4, hM4⟩ : ∃ L, a.fb.length = L := ⟨_, rfl⟩
  rw [hM4] at K4 A4
  obtain ⟨N4, hN4⟩ : ∃ L, b.fb.length = L := ⟨_, rfl⟩
  rw [hN4] at K4 B4
  obtain ⟨e5, he5⟩ : ∃ e, decide (a.bits = b.bits) = e := ⟨_, rfl⟩
  rw [he5]
  have c5 : (((a.bits : Nat) : Int) == (b.bits : Int)) = e5 := by rw [beqN]; exact he5
  obtain ⟨e6, he6⟩ : ∃ e, decide (a.sig = b.sig) = e := ⟨_, rfl⟩
  rw [he6]
  have c6 : (a.sig.toList == b.sig.toList) = e6 := by
    rw [← he6]
    by_cases h : a.sig = b.sig
    · rw [decide_eq_true h, h]; exact beq_self_eq_true _
    · rw [decide_eq_false h, beq_eq_false_iff_ne]; exact fun e => h (toList_inj e)
  obtain ⟨e7, he7⟩ : ∃ e, decide (a.slot = b.slot) = e := ⟨_, rfl⟩
  rw [he7]
  have c7 : (((a.slot : Nat) : Int) == (b.slot : Int)) = e7 := by rw [beqN]; exact he7
  obtain ⟨LA, hLA⟩ : ∃ L, upV a qa = L := ⟨_, rfl⟩
  obtain ⟨LB, hLB⟩ : ∃ L, upV b qb = L := ⟨_, rfl⟩
  rw [hLA] at A0 A1 A2 A3 A4 A5 A6 A7 HLn ⊢
  rw [hLB] at B0 B1 B2 B3 B4 B5 B6 B7 HLn ⊢
  clear hLA hLB la lb hpa hpb hn he0 he1 he2 he3 he4 he5 he6 he7 hX0 hY0 hX1 hY1 hX2 hY2 hM3 hN3 hM4 hN4
  obtain ⟨BV0, hxA, hxB, hs⟩ := box2 w (.cells LA.toArray 36) (.cells LB.toArray 36)
  obtain ⟨z, hz⟩ : ∃ z, w.heap.size = z := ⟨_, rfl⟩
  have HZ : Hid (w.heap.size = z) := hz
  rw [hz] at BV0 hxA hxB hs K0 K1 K2 K3 K4
  go_enter Tryz.func32, Tryz.ntmps32
  have xA0 : Bq z 36 LA.toArray _ := hxA
  have xB0 : Bq (z + 1) 36 LB.toArray _ := hxB
  clear hxA hxB
  have RA := range_of_block xA0 0 X0 A0
  have RB := range_of_block xB0 0 Y0 B0
  go_wp2_with (first | (refine wpList_load_mid rfl 29 _ rfl z 0 rfl _ _ RA Tryz.underlying29 rfl (by rw [HLn.out.2.2.1]; kernel_rfl) ?_) | (refine wpList_load_mid rfl 29 _ rfl (z + 1) 0 rfl _ _ RB Tryz.underlying29 rfl (by rw [HLn.out.2.2.2.1]; kernel_rfl) ?_))
  refine (K0 _ BV0).mono ?_
  rintro r V1 ⟨rfl, C⟩
  have hs1 : z + 2 ≤ V1.heap.size := by have := C.size; omega
  have xA1 : Bq z 36 LA.toArray V1 := Bq.below xA0 C
  have xB1 : Bq (z + 1) 36 LB.toArray V1 := Bq.below xB0 C
  have BV1 := belowStep BV0 (by omega) C
  clear RA RB C xA0 xB0 BV0 K0 hs hz
  have RA := range_of_block xA1 12 X1 A1
  have RB := range_of_block xB1 12 Y1 B1
  go_wp2_with (first | (refine wpList_load_mid rfl 29 _ rfl z 12 rfl _ _ RA Tryz.underlying29 rfl (by rw [HLn.out.2.2.2.2.1]; kernel_rfl) ?_) | (refine wpList_load_mid rfl 29 _ rfl (z + 1) 12 rfl _ _ RB Tryz.underlying29 rfl (by rw [HLn.out.2.2.2.2.2.1]; kernel_rfl) ?_))
  refine (K1 _ BV1).mono ?_
  rintro r V2 ⟨rfl, C⟩
  have hs2 : z + 2 ≤ V2.heap.size := by have := C.size; omega
  have xA2 : Bq z 36 LA.toArray V2 := Bq.below xA1 C
  have xB2 : Bq (z + 1) 36 LB.toArray V2 := Bq.below xB1 C
  have BV2 := belowStep BV1 (by omega) C
  clear RA RB C xA1 xB1 BV1 K1 hs1
  have RA := range_of_block xA2 9 X2 A2
  have RB := range_of_block xB2 9 Y2 B2
  go_wp2_with (first | (refine wpList_load_mid rfl 31 _ rfl z 9 rfl _ _ RA Tryz.underlying31 rfl (by rw [HLn.out.2.2.2.2.2.2.1]; kernel_rfl) ?_) | (refine wpList_load_mid rfl 31 _ rfl (z + 1) 9 rfl _ _ RB Tryz.underlying31 rfl (by rw [HLn.out.2.2.2.2.2.2.2]; kernel_rfl) ?_))
  refine (K2 _ BV2).mono ?_
  rintro r V3 ⟨rfl, C⟩
  have hs3 : z + 2 ≤ V3.heap.size := by have := C.size; omega
  have xA3 : Bq z 36 LA.toArray V3 := Bq.below xA2 C
  have xB3 : Bq (z + 1) 36 LB.toArray V3 := Bq.below xB2 C
  have BV3 := belowStep BV2 (by omega) C
  clear RA RB C xA2 xB2 BV2 K2 hs2
  cases e0 with
  | false =>
    have HB : Hid _ := BV3
    clear BV3
    go_wp2
    go_ret
    rw [HZ.out]
    exact ⟨by simp, HB.out⟩
  | true =>
    cases e1 with
    | false =>
      have HB : Hid _ := BV3
      clear BV3
      go_wp2
      go_ret
      rw [HZ.out]
      exact ⟨by simp, HB.out⟩
    | true =>
      cases e2 with
      | false =>
        have HB : Hid _ := BV3
        clear BV3
        go_wp2
        go_ret
        rw [HZ.out]
        exact ⟨by simp, HB.out⟩
      | true =>
        have dA3 := cell_of_block xA3 11 _ A3
        have dA4 := cell_of_block xA3 21 _ A4
        have dA5 := cell_of_block xA3 22 _ A5
        have dA6 := cell_of_block xA3 23 _ A6
        have dA7 := cell_of_block xA3 24 _ A7
        have dB3 := cell_of_block xB3 11 _ B3
        have dB4 := cell_of_block xB3 21 _ B4
        have dB5 := cell_of_block xB3 22 _ B5
        have dB6 := cell_of_block xB3 23 _ B6
        have dB7 := cell_of_block xB3 24 _ B7
        go_wp2_with fail
        refine (K3 _ BV3).mono ?_
        rintro r V4 ⟨rfl, C⟩
        have hs4 : z + 2 ≤ V4.heap.size := by have := C.size; omega
        have xA4 : Bq z 36 LA.toArray V4 := Bq.below xA3 C
        have xB4 : Bq (z + 1) 36 LB.toArray V4 := Bq.below xB3 C
        have BV4 := belowStep BV3 (by omega) C
        clear C xA3 xB3 BV3 hs3 dA3 dB3 dA4 dB4 dA5 dB5 dA6 dB6 dA7 dB7
        cases e3 with
        | false =>
          have HB : Hid _ := BV4
          clear BV4
          go_wp2
          go_ret
          rw [HZ.out]
          exact ⟨by simp, HB.out⟩
        | true =>
          have dA3 := cell_of_block xA4 11 _ A3
          have dA4 := cell_of_block xA4 21 _ A4
          have dA5 := cell_of_block xA4 22 _ A5
          have dA6 := cell_of_block xA4 23 _ A6
          have dA7 := cell_of_block xA4 24 _ A7
          have dB3 := cell_of_block xB4 11 _ B3
          have dB4 := cell_of_block xB4 21 _ B4
          have dB5 := cell_of_block xB4 22 _ B5
          have dB6 := cell_of_block xB4 23 _ B6
          have dB7 := cell_of_block xB4 24 _ B7
          go_wp2_with fail
          refine (K4 _ BV4).mono ?_
          rintro r V5 ⟨rfl, C⟩
          have hs5 : z + 2 ≤ V5.heap.size := by have := C.size; omega
          have xA5 : Bq z 36 LA.toArray V5 := Bq.below xA4 C
          have xB5 : Bq (z + 1) 36 LB.toArray V5 := Bq.below xB4 C
          have BV5 := belowStep BV4 (by omega) C
          clear C xA4 xB4 BV4 hs4 dA3 dB3 dA4 dB4 dA5 dB5 dA6 dB6 dA7 dB7
          cases e4 with
          | false =>
            have HB : Hid _ := BV5
            clear BV5
            go_wp2
            go_ret
            rw [HZ.out]
            exact ⟨by simp, HB.out⟩
          | true =>
            have dA3 := cell_of_block xA5 11 _ A3
            have dA4 := cell_of_block xA5 21 _ A4
            have dA5 := cell_of_block xA5 22 _ A5
            have dA6 := cell_of_block xA5 23 _ A6
            have dA7 := cell_of_block xA5 24 _ A7
            have dB3 := cell_of_block xB5 11 _ B3
            have dB4 := cell_of_block xB5 21 _ B4
            have dB5 := cell_of_block xB5 22 _ B5
            have dB6 := cell_of_block xB5 23 _ B6
            have dB7 := cell_of_block xB5 24 _ B7
            cases e5 with
            | false =>
              have HB : Hid _ := BV5
              clear BV5
              go_wp2
              go_ret
              rw [HZ.out]
              exact ⟨by simp, HB.out⟩
            | true =>
              cases e6 with
              | false =>
                have HB : Hid _ := BV5
                clear BV5
                go_wp2
                go_ret
                rw [HZ.out]
                exact ⟨by simp, HB.out⟩
              | true =>
                cases e7 with
                | false =>
                  have HB : Hid _ := BV5
                  clear BV5
                  go_wp2
                  go_ret
                  rw [HZ.out]
                  exact ⟨by simp, HB.out⟩
                | true =>
                  have HB : Hid _ := BV5
                  clear BV5
                  go_wp2
                  go_ret
                  rw [HZ.out]
                  exact ⟨by simp, HB.out⟩
set_option maxRecDepth 100000 in
set_option maxHeartbeats 8000000 in
theorem sameSt_any (a b : StD) (la : LgT a) (lb : LgT b) (qa qb : StP) (n : Nat) (w : World) (hn : n ≤ w.heap.size) (hpa : stIn n w a qa) (hpb : stIn n w b qb) :
    Calls Tryz.prog 12 #[.agg (stV a qa).toArray, .agg (stV b qb).toArray] w fun x w' => x = .returned (.bool (eqSt a b)) ∧ Below w.heap.size w w' := by
  have K0 := fun (W : World) (hB : Below w.heap.size w W) => sameLt_any a.fin b.fin la.1 lb.1 qa.fin qb.fin n W (Nat.le_trans hn hB.size) (slS_below (hB.mono hn) hpa.1) (slS_below (hB.mono hn) hpb.1)
  have A0 := stV_fin a qa
  have B0 := stV_fin b qb
  have K1 := fun (W : World) (hB : Below w.heap.size w W) => sameLt_any a.new b.new la.2.1 lb.2.1 qa.new qb.new n W (Nat.le_trans hn hB.size) (slS_below (hB.mono hn) hpa.2.1) (slS_below (hB.mono hn) hpb.2.1)
  have A1 := stV_new a qa
  have B1 := stV_new b qb
  have K2 := fun (W : World) (hB : Below w.heap.size w W) => sameCm_any a.now b.now la.2.2.1 lb.2.2.1 qa.now qb.now n W (Nat.le_trans hn hB.size) (slS_below (hB.mono hn) hpa.2.2.1) (slS_below (hB.mono hn) hpb.2.2.1)
  have A2 := stV_now a qa
  have B2 := stV_now b qb
  have K3 := fun (W : World) (hB : Below w.heap.size w W) => sameCm_any a.nxt b.nxt la.2.2.2.1 lb.2.2.2.1 qa.nxt qb.nxt n W (Nat.le_trans hn hB.size) (slS_below (hB.mono hn) hpa.2.2.2.1) (slS_below (hB.mono hn) hpb.2.2.2.1)
  have A3 := stV_nxt a qa
  have B3 := stV_nxt b qb
  have K4 := fun (W : World) (hB : Below w.heap.size w W) => sameUp_any a.best b.best la.2.2.2.2 lb.2.2.2.2 qa.best qb.best n W (Nat.le_trans hn hB.size) (hpa.2.2.2.2.below (hB.mono hn)) (hpb.2.2.2.2.below (hB.mono hn))
  have A4 := stV_best a qa
  have B4 := stV_best b qb
  have A5 : (stV a qa)[47]? = some (.bool a.has) := rfl
  have B5 : (stV b qb)[47]? = some (.bool b.has) := rfl
  have A6 : (stV a qa)[48]? = some (.int .i64 a.last) := rfl
  have B6 : (stV b qb)[48]? = some (.int .i64 b.last) := rfl
  have A7 : (stV a qa)[49]? = some (.int .i64 a.this) := rfl
  have B7 : (stV b qb)[49]? = some (.int .i64 b.this) := rfl
  have A8 : (stV a qa)[50]? = some (.bool a.forced) := rfl
  have B8 : (stV b qb)[50]? = some (.bool b.forced) := rfl
  have HLn : Hid ((stV a qa).length = 51 ∧ (stV b qb).length = 51 ∧ (ltV a.fin qa.fin).length = 9 ∧ (ltV b.fin qb.fin).length = 9 ∧ (ltV a.new qa.new).length = 9 ∧ (ltV b.new qb.new).length = 9 ∧ (cmV a.now qa.now).length = 2 ∧ (cmV b.now qb.now).length = 2 ∧ (cmV a.nxt qa.nxt).length = 2 ∧ (cmV b.nxt qb.nxt).length = 2 ∧ (upV a.best qa.best).length = 25 ∧ (upV b.best qb.best).length = 25) := show _ from ⟨rfl, rfl, rfl, rfl, rfl, rfl, rfl, rfl, rfl, rfl, rfl, rfl⟩
  unfold eqSt
  obtain ⟨e0, he0⟩ : ∃ e, eqLt a.fin b.fin = e := ⟨_, rfl⟩
  rw [he0] at K0
  rw [he0]
  obtain ⟨X0, hX0⟩ : ∃ L, ltV a.fin qa.fin = L := ⟨_, rfl⟩
  rw [hX0] at K0 A0 HLn
  obtain ⟨Y0, hY0⟩ : ∃ L, ltV b.fin qb.fin = L := ⟨_, rfl⟩
  rw [hY0] at K0 B0 HLn
  obtain ⟨e1, he1⟩ : ∃ e, eqLt a.new b.new = e := ⟨_, rfl⟩
  rw [he1] at K1
  rw [he1]
  obtain ⟨X1, hX1⟩ : ∃ L, ltV a.new qa.new = L := ⟨_, rfl⟩
  rw [hX1] at K1 A1 HLn
  obtain ⟨Y1, hY1⟩ : ∃ L, ltV b.new qb.new = L := ⟨_, rfl⟩
  rw [hY1] at K1 B1 HLn
  obtain ⟨e2, he2⟩ : ∃ e, eqCm a.now b.now = e := ⟨_, rfl⟩
  rw [he2] at K2
  rw [he2]
  obtain ⟨X2, hX2⟩ : ∃ L, cmV a.now qa.now = L := ⟨_, rfl⟩
  rw [hX2] at K2 A2 HLn
  obtain ⟨Y2, hY2⟩ : ∃ L, cmV b.now qb.now = L := ⟨_, rfl⟩
  rw [hY2] at K2 B2 HLn
  obtain ⟨e3, he3⟩ : ∃ e, eqCm a.nxt b.nxt = e := ⟨_, rfl⟩
  rw [he3] at K3
  rw [he3]
  obtain ⟨X3, hX3⟩ : ∃ L, cmV a.nxt qa.nxt = L := ⟨_, rfl⟩
  rw [hX3] at K3 A3 HLn
  obtain ⟨Y3, hY3⟩ : ∃ L, cmV b.nxt qb.nxt = L := ⟨_, rfl⟩
  rw [hY3] at K3 B3 HLn
  obtain ⟨e4, he4⟩ : ∃ e, eqUp a.best b.best = e := ⟨_, rfl⟩
  rw [he4] at K4
  rw [he4]
  obtain ⟨X4, hX4⟩ : ∃ L, upV a.best qa.best = L := ⟨_, rfl⟩
  rw [hX4] at K4 A4 HLn
  obtain ⟨Y4, hY4⟩ : ∃ L, upV b.best qb.best = L := ⟨_, rfl⟩
  rw [hY4] at K4 B4 HLn
  obtain ⟨e5, he5⟩ : ∃ e, decide (a.has = b.has) = e := ⟨_, rfl⟩
  rw [he5]
  have c5 : (a.has == b.has) = e5 := by rw [← he5]; rfl
  obtain ⟨e6, he6⟩ : ∃ e, decide (a.last = b.last) = e := ⟨_, rfl⟩
  rw [he6]
  have c6 : (a.last == b.last) = e6 := by rw [← he6]; rfl
  obtain ⟨e7, he7⟩ : ∃ e, decide (a.this = b.this) = e := ⟨_, rfl⟩
  rw [he7]
  have c7 : (a.this == b.this) = e7 := by rw [← he7]; rfl
  obtain ⟨e8, he8⟩ : ∃ e, decide (a.forced = b.forced) = e := ⟨_, rfl⟩
  rw [he8]
  have c8 : (a.forced == b.forced) = e8 := by rw [← he8]; rfl
  obtain ⟨LA, hLA⟩ : ∃ L, stV a qa = L := ⟨_, rfl⟩
  obtain ⟨LB, hLB⟩ : ∃ L, stV b qb = L := ⟨_, rfl⟩
  rw [hLA] at A0 A1 A2 A3 A4 A5 A6 A7 A8 HLn ⊢
  rw [hLB] at B0 B1 B2 B3 B4 B5 B6 B7 B8 HLn ⊢
  clear hLA hLB la lb hpa hpb hn he0 he1 he2 he3 he4 he5 he6 he7 he8 hX0 hY0 hX1 hY1 hX2 hY2 hX3 hY3 hX4 hY4
  obtain ⟨BV0, hxA, hxB, hs⟩ := box2 w (.cells LA.toArray 38) (.cells LB.toArray 38)
  obtain ⟨z, hz⟩ : ∃ z, w.heap.size = z := ⟨_, rfl⟩
  have HZ : Hid (w.heap.size = z) := hz
  rw [hz] at BV0 hxA hxB hs K0 K1 K2 K3 K4
  go_enter Tryz.func12, Tryz.ntmps12
  have xA0 : Bq z 38 LA.toArray _ := hxA
  have xB0 : Bq (z + 1) 38 LB.toArray _ := hxB
  clear hxA hxB
  have RA := range_of_block xA0 0 X0 A0
  have RB := range_of_block xB0 0 Y0 B0
  go_wp2_with (first | (refine wpList_load_mid rfl 29 _ rfl z 0 rfl _ _ RA Tryz.underlying29 rfl (by rw [HLn.out.2.2.1]; kernel_rfl) ?_) | (refine wpList_load_mid rfl 29 _ rfl (z + 1) 0 rfl _ _ RB Tryz.underlying29 rfl (by rw [HLn.out.2.2.2.1]; kernel_rfl) ?_))
  refine (K0 _ BV0).mono ?_
  rintro r V1 ⟨rfl, C⟩
  have hs1 : z + 2 ≤ V1.heap.size := by have := C.size; omega
  have xA1 : Bq z 38 LA.toArray V1 := Bq.below xA0 C
  have xB1 : Bq (z + 1) 38 LB.toArray V1 := Bq.below xB0 C
  have BV1 := belowStep BV0 (by omega) C
  clear RA RB C xA0 xB0 BV0 K0 hs hz
  have RA := range_of_block xA1 9 X1 A1
  have RB := range_of_block xB1 9 Y1 B1
  go_wp2_with (first | (refine wpList_load_mid rfl 29 _ rfl z 9 rfl _ _ RA Tryz.underlying29 rfl (by rw [HLn.out.2.2.2.2.1]; kernel_rfl) ?_) | (refine wpList_load_mid rfl 29 _ rfl (z + 1) 9 rfl _ _ RB Tryz.underlying29 rfl (by rw [HLn.out.2.2.2.2.2.1]; kernel_rfl) ?_))
  refine (K1 _ BV1).mono ?_
  rintro r V2 ⟨rfl, C⟩
  have hs2 : z + 2 ≤ V2.heap.size := by have := C.size; omega
  have xA2 : Bq z 38 LA.toArray V2 := Bq.below xA1 C
  have xB2 : Bq (z + 1) 38 LB.toArray V2 := Bq.below xB1 C
  have BV2 := belowStep BV1 (by omega) C
  clear RA RB C xA1 xB1 BV1 K1 hs1
  have RA := range_of_block xA2 18 X2 A2
  have RB := range_of_block xB2 18 Y2 B2
  go_wp2_with (first | (refine wpList_load_mid rfl 31 _ rfl z 18 rfl _ _ RA Tryz.underlying31 rfl (by rw [HLn.out.2.2.2.2.2.2.1]; kernel_rfl) ?_) | (refine wpList_load_mid rfl 31 _ rfl (z + 1) 18 rfl _ _ RB Tryz.underlying31 rfl (by rw [HLn.out.2.2.2.2.2.2.2.1]; kernel_rfl) ?_))
  refine (K2 _ BV2).mono ?_
  rintro r V3 ⟨rfl, C⟩
  have hs3 : z + 2 ≤ V3.heap.size := by have := C.size; omega
  have xA3 : Bq z 38 LA.toArray V3 := Bq.below xA2 C
  have xB3 : Bq (z + 1) 38 LB.toArray V3 := Bq.below xB2 C
  have BV3 := belowStep BV2 (by omega) C
  clear RA RB C xA2 xB2 BV2 K2 hs2
  have RA := range_of_block xA3 20 X3 A3
  have RB := range_of_block xB3 20 Y3 B3
  go_wp2_with (first | (refine wpList_load_mid rfl 31 _ rfl z 20 rfl _ _ RA Tryz.underlying31 rfl (by rw [HLn.out.2.2.2.2.2.2.2.2.1]; kernel_rfl) ?_) | (refine wpList_load_mid rfl 31 _ rfl (z + 1) 20 rfl _ _ RB Tryz.underlying31 rfl (by rw [HLn.out.2.2.2.2.2.2.2.2.2.1]; kernel_rfl) ?_))
  refine (K3 _ BV3).mono ?_
  rintro r V4 ⟨rfl, C⟩
  have hs4 : z + 2 ≤ V4.heap.size := by have := C.size; omega
  have xA4 : Bq z 38 LA.toArray V4 := Bq.below xA3 C
  have xB4 : Bq (z + 1) 38 LB.toArray V4 := Bq.below xB3 C
  have BV4 := belowStep BV3 (by omega) C
  clear RA RB C xA3 xB3 BV3 K3 hs3
  have RA := range_of_block xA4 22 X4 A4
  have RB := range_of_block xB4 22 Y4 B4
  go_wp2_with (first | (refine wpList_load_mid rfl 36 _ rfl z 22 rfl _ _ RA Tryz.underlying36 rfl (by rw [HLn.out.2.2.2.2.2.2.2.2.2.2.1]; kernel_rfl) ?_) | (refine wpList_load_mid rfl 36 _ rfl (z + 1) 22 rfl _ _ RB Tryz.underlying36 rfl (by rw [HLn.out.2.2.2.2.2.2.2.2.2.2.2]; kernel_rfl) ?_))
  refine (K4 _ BV4).mono ?_
  rintro r V5 ⟨rfl, C⟩
  have hs5 : z + 2 ≤ V5.heap.size := by have := C.size; omega
  have xA5 : Bq z 38 LA.toArray V5 := Bq.below xA4 C
  have xB5 : Bq (z + 1) 38 LB.toArray V5 := Bq.below xB4 C
  have BV5 := belowStep BV4 (by omega) C
  clear RA RB C xA4 xB4 BV4 K4 hs4
  cases e0 with
  | false =>
    have HB : Hid _ := BV5
    clear BV5
    go_wp2
    go_ret
    rw [HZ.out]
    exact ⟨by simp, HB.out⟩
  | true =>
    cases e1 with
    | false =>
      have HB : Hid _ := BV5
      clear BV5
      go_wp2
      go_ret
      rw [HZ.out]
      exact ⟨by simp, HB.out⟩
    | true =>
      cases e2 with
      | false =>
        have HB : Hid _ := BV5
        clear BV5
        go_wp2
        go_ret
        rw [HZ.out]
        exact ⟨by simp, HB.out⟩
      | true =>
        cases e3 with
        | false =>
          have HB : Hid _ := BV5
          clear BV5
          go_wp2
          go_ret
          rw [HZ.out]
          exact ⟨by simp, HB.out⟩
        | true =>
          cases e4 with
          | false =>
            have HB : Hid _ := BV5
            clear BV5
            go_wp2
            go_ret
            rw [HZ.out]
            exact ⟨by simp, HB.out⟩
          | true =>
            have dA5 := cell_of_block xA5 47 _ A5
            have dA6 := cell_of_block xA5 48 _ A6
            have dA7 := cell_of_block xA5 49 _ A7
            have dA8 := cell_of_block xA5 50 _ A8
            have dB5 := cell_of_block xB5 47 _ B5
            have dB6 := cell_of_block xB5 48 _ B6
            have dB7 := cell_of_block xB5 49 _ B7
            have dB8 := cell_of_block xB5 50 _ B8
            cases e5 with
            | false =>
              have HB : Hid _ := BV5
              clear BV5
              go_wp2
              go_ret
              rw [HZ.out]
              exact ⟨by simp, HB.out⟩
            | true =>
              cases e6 with
              | false =>
                have HB : Hid _ := BV5
                clear BV5
                go_wp2
                go_ret
                rw [HZ.out]
                exact ⟨by simp, HB.out⟩
              | true =>
                cases e7 with
                | false =>
                  have HB : Hid _ := BV5
                  clear BV5
                  go_wp2
                  go_ret
                  rw [HZ.out]
                  exact ⟨by simp, HB.out⟩
                | true =>
                  cases e8 with
                  | false =>
                    have HB : Hid _ := BV5
                    clear BV5
                    go_wp2
                    go_ret
                    rw [HZ.out]
                    exact ⟨by simp, HB.out⟩
                  | true =>
                    have HB : Hid _ := BV5
                    clear BV5
                    go_wp2
                    go_ret
                    rw [HZ.out]
                    exact ⟨by simp, HB.out⟩
end Go.Proofs.YtoddangedbefgaaGreatDoor
namespace Go.Proofs.YtoddangedbefgaaGreatDoor
open Go.RowKit Go.Shelf Go.Sort

/-- A drawn statement that only reads, step by step: the goal behind a wall that no step looks through. -/
theorem qs_step {P : Program} {ops : Array Oper} {C : World → Prop} {Q : Act → Prop} {rest : List Oper} {o : Oper} {a : Act}
    (h : ∀ K : Act → Prop, (∀ a, Stp (wpQuiet P ops C Q rest a) → K a) → if Region.wanted o (yielded ops a.tmps) then o.quiet P a C K else K (a.put o.dst undef)) : Stp (wpQuiet P ops C Q (o :: rest) a) := ⟨wpQuiet_step fun K hK => h K fun a ha => hK a ha.out⟩
theorem quiet_load_S {P : Program} {ops : Array Oper} {C : World → Prop} {Q : Act → Prop} {rest : List Oper} {o : Oper} {a : Act} (hw : Region.wanted o (yielded ops a.tmps) = true) (ty : TypeId) (x : Operand) (ho : o.op = .load ty x)
    (b off : Nat) (hx : a.eval x = .pointer (some ⟨b, off, none⟩)) (cs : List Value) (d : TypeDesc) (hc : ∀ W, C W → W.rangeAt b off cs) (hu : P.underlying ty = some d) (hd : d.isRow = true) (hi : (P.info? ty).map (·.size) = some cs.length)
    (h : Stp (wpQuiet P ops C Q rest (a.put o.dst (.agg cs.toArray)))) : Stp (wpQuiet P ops C Q (o :: rest) a) := ⟨quiet_load_mid hw ty x ho b off hx cs d hc hu hd hi h.out⟩
set_option maxRecDepth 20000 in
set_option maxHeartbeats 1000000 in
theorem rsigners_any (b : Nat) (hb : b < 18446744073709551616) (w : World) : Calls Tryz.prog 40 #[.int .u64 (b : Int)] w fun x w' => x = .returned (.int .i64 ((sgN b : Nat) : Int)) ∧ Below w.heap.size w w' := by
  go_enter Tryz.func40, Tryz.ntmps40
  have B0 : Below w.heap.size w w := Below.refl _ _
  go_wp2_with fail
  go_loopg [3, 4] 16 (fun gk v i wr => ∃ k : Nat, k + gk = 16 ∧ i = .int .i64 k ∧ v = .int .i64 (((sgL b k).length : Nat) : Int) ∧ Below w.heap.size w wr)
  case atStart => exact ⟨0, by omega, rfl, rfl, B0⟩
  case round =>
    clear B0
    obtain ⟨k, hk, rfl, rfl, BW⟩ := hrel
    have hle := sgL_len b k
    have hsu := sgL_succ b k
    obtain ⟨c, hc⟩ : ∃ c, (sgL b k).length = c := ⟨_, rfl⟩
    have HC : Hid ((sgL b k).length = c ∧ sgL b (k + 1) = if sgB b k = true then sgL b k ++ [k] else sgL b k) := ⟨hc, hsu⟩
    rw [hc] at hle ⊢
    clear hc hsu
    by_cases hlt : k < 16
    · have l0 : (k : Int) < 16 := by omega
      have wk : IntKind.i64.wrap ((k : Int) + 1) = ((k + 1 : Nat) : Int) := by rw [IntKind.wrap_i64]; omega
      have wc : IntKind.i64.wrap ((c : Int) + 1) = ((c + 1 : Nat) : Int) := by rw [IntKind.wrap_i64]; omega
      have hdv : (b : Int) / 2 ^ k = ((b / 2 ^ k : Nat) : Int) := by rw [Int.natCast_ediv, Int.natCast_pow]; rfl
      have hbd : b / 2 ^ k < 18446744073709551616 := Nat.lt_of_le_of_lt (Nat.div_le_self _ _) hb
      have han : bits .and .u64 ((b : Int) / 2 ^ k) 1 = ((b / 2 ^ k % 2 : Nat) : Int) := by rw [hdv]; exact and_bit8 _ hbd
      have hsg : sgB b k = decide (b / 2 ^ k % 2 = 1) := rfl
      obtain ⟨d, hd⟩ : ∃ d, b / 2 ^ k % 2 = d := ⟨_, rfl⟩
      rw [hd] at hsg han
      have HSG : Hid _ := hsg
      have hd2 : d < 2 := by omega
      clear hdv hbd hsg hd
      by_cases h1 : d = 1
      · subst h1
        replace han : bits .and .u64 ((b : Int) / 2 ^ k) 1 = 1 := han
        go_wp2
        go_roundg (gk - 1)
        case measure => omega
        case rel => exact ⟨k + 1, by omega, by first | rfl | (congr 1; omega), by rw [HC.out.2, HSG.out, if_pos (by rfl), List.length_append, HC.out.1]; rfl, BW⟩
      · obtain rfl : d = 0 := by omega
        replace han : bits .and .u64 ((b : Int) / 2 ^ k) 1 = 0 := han
        go_wp2
        go_roundg (gk - 1)
        case measure => omega
        case rel => exact ⟨k + 1, by omega, by first | rfl | (congr 1; omega), by rw [HC.out.2, HSG.out, if_neg (by decide), HC.out.1], BW⟩
    · have l1 : ¬ (k : Int) < 16 := by omega
      obtain rfl : k = 16 := by omega
      have HB : Hid _ := BW
      clear BW
      go_wp2
      go_ret
      exact ⟨by simp [sgN, HC.out.1], HB.out⟩
set_option maxHeartbeats 1000000 in
theorem rtwoThirds_any (d : UpD) (hd : d.ok) (q : UpP) (w : World) : Calls Tryz.prog 49 #[.agg (upV d q).toArray] w fun x w' => x = .returned (.bool (twB d.bits)) ∧ Below w.heap.size w w' := by
  have KC := rsigners_any d.bits hd.2.2.1
  have hn := sgN_le d.bits
  unfold twB
  obtain ⟨n, hnn⟩ : ∃ n, sgN d.bits = n := ⟨_, rfl⟩
  rw [hnn] at KC hn ⊢
  have h22 : (upV d q)[22]? = some (.int .u64 (d.bits : Int)) := rfl
  obtain ⟨L, hL⟩ : ∃ L, upV d q = L := ⟨_, rfl⟩
  rw [hL] at h22 ⊢
  clear hL hnn
  have wm : IntKind.i64.wrap (3 * (n : Int)) = 3 * (n : Int) := by rw [IntKind.wrap_i64]; omega
  obtain ⟨B1, hx, hs⟩ := box1 w (.cells L.toArray 36)
  have c0 := cell_of_block hx 22 _ h22
  clear hx hs h22
  go_enter Tryz.func49, Tryz.ntmps49
  go_wp2_with fail
  refine (KC _).mono ?_
  rintro r w2 ⟨rfl, B2⟩
  have BX := belowStep B1 B1.size B2
  have HB : Hid _ := BX
  clear B2 B1 BX c0 KC
  go_wp2
  go_ret
  exact ⟨by simp; omega, HB.out⟩
theorem eqLt_z (d : LtD) : eqLt d zLt = emB d := by
  rw [Bool.eq_iff_iff, eqLt_iff, emB_iff]
set_option maxHeartbeats 1000000 in
theorem risFinal_any (d : UpD) (hl : Lg d.f.br) (q : UpP) (n : Nat) (w : World) (hn : n ≤ w.heap.size) (hp : slS n w q.f.a d.f.br) : Calls Tryz.prog 51 #[.agg (upV d q).toArray] w fun x w' => x = .returned (.bool (fnB d)) ∧ Below w.heap.size w w' := by
  have KE : ∀ W : World, Below w.heap.size w W → Calls Tryz.prog 30 #[.agg (ltV d.f q.f).toArray, .agg #[.int .u64 0, .int .u64 0, .string ⟨#[]⟩, .string ⟨#[]⟩, .string ⟨#[]⟩, .string ⟨#[]⟩, .string ⟨#[]⟩, .int .u64 0, .slice none 0 0]] W fun x w' => x = .returned (.bool (eqLt d.f zLt)) ∧ Below W.heap.size W w' :=
    fun W hB => sameLt_any d.f zLt hl (by unfold Lg; decide) q.f nP n W (Nat.le_trans hn hB.size) (slS_below (hB.mono hn) hp) (nil_in _ _)
  rw [eqLt_z] at KE
  have hF := upV_f d q
  unfold fnB
  obtain ⟨m, hm⟩ : ∃ n, d.fb.length = n := ⟨_, rfl⟩
  have h21 : (upV d q).toArray[21]? = some (.slice q.fb.a m q.fb.c) := by rw [← hm]; rfl
  obtain ⟨e, he⟩ : ∃ e, emB d.f = e := ⟨_, rfl⟩
  have H9 : Hid ((ltV d.f q.f).length = 9) := show _ from rfl
  obtain ⟨M, hM⟩ : ∃ M, ltV d.f q.f = M := ⟨_, rfl⟩
  obtain ⟨L, hL⟩ : ∃ L, upV d q = L := ⟨_, rfl⟩
  rw [hM] at KE hF H9
  rw [hL] at h21 hF ⊢
  rw [hm, he]
  rw [he] at KE
  clear hL hM hm he hn hp hl
  obtain ⟨B1, hx, hs⟩ := box1 w (.cells L.toArray 36)
  have R1 := range_of_block hx 12 M hF
  go_enter Tryz.func51, Tryz.ntmps51
  by_cases h : 0 < m
  · have l0 : (0 : Int) < m := by omega
    have HB : Hid _ := B1
    clear B1 R1 hx hs
    go_wp2
    go_ret
    exact ⟨by simp_all, HB.out⟩
  · have l0 : ¬ (0 : Int) < m := by omega
    go_wp2_with (refine load_mid_wanted (by kernel_rfl) 29 _ rfl w.heap.size 12 rfl _ _ R1 Tryz.underlying29 rfl (by rw [H9.out]; kernel_rfl) ?_)
    refine (KE _ B1).mono ?_
    rintro r w2 ⟨rfl, B2⟩
    have HB : Hid _ := belowStep B1 B1.size B2
    clear B2 B1 R1 hx hs KE
    go_wp2
    go_ret
    exact ⟨by simp_all, HB.out⟩
def ofB (d : UpD) : Bool := decide (d.f.s / 64 = d.l.s / 64)
def ownB (d : UpD) : Bool := hnB d && decide (d.l.s / 64 = d.slot / 64)
set_option maxHeartbeats 1000000 in
theorem rownFinal_any (d : UpD) (hd : d.ok) (q : UpP) (w : World) : Calls Tryz.prog 52 #[.agg (upV d q).toArray] w fun x w' => x = .returned (.bool (ofB d)) ∧ Below w.heap.size w w' := by
  have K1 := rperiod_any d.f.s hd.2.1.1
  have K2 := rperiod_any d.l.s hd.1.1
  have h0 : (upV d q)[0]? = some (.int .u64 (d.l.s : Int)) := rfl
  have h12 : (upV d q)[12]? = some (.int .u64 (d.f.s : Int)) := rfl
  unfold ofB
  obtain ⟨L, hL⟩ : ∃ L, upV d q = L := ⟨_, rfl⟩
  obtain ⟨x, hxx⟩ : ∃ x, d.f.s / 64 = x := ⟨_, rfl⟩
  obtain ⟨y, hyy⟩ : ∃ x, d.l.s / 64 = x := ⟨_, rfl⟩
  rw [hL] at h0 h12 ⊢
  rw [hxx] at K1 ⊢
  rw [hyy] at K2 ⊢
  clear hL hxx hyy
  obtain ⟨B1, hx, hs⟩ := box1 w (.cells L.toArray 36)
  obtain ⟨V, hV⟩ : ∃ V, w.alloc (.cells L.toArray 36) = V := ⟨_, rfl⟩
  rw [hV] at B1 hx hs
  have k0 := cell_regrown (cell_of_block hx 0 _ h0)
  have k12 := cell_regrown (cell_of_block hx 12 _ h12)
  have c1 := inClass (w := V) K1
  have c2 := inClass (w := V) K2
  clear hx hs h0 h12
  go_enter Tryz.func52, Tryz.ntmps52
  go_wp2_with fail
  first | rw [hV] | skip
  clear hV
  refine wp_region_quiet_below (by kernel_rfl) (by kernel_rfl) ?_
  quiet_step (fail)
  quiet_step (fail)
  quiet_step (fail)
  quiet_step (fail)
  quiet_step (exact c1 _ _)
  quiet_step (fail)
  quiet_step (fail)
  quiet_step (fail)
  quiet_step (fail)
  quiet_step (exact c2 _ _)
  repeat (quiet_step (fail))
  refine wpQuiet_nil ?_
  intro w2 hw2
  have cB2 : Below V.heap.size V w2 := by
    obtain ⟨p, rfl⟩ := hw2
    exact below_regrown _ _ _
  have B2 : Below w.heap.size w w2 := by
    obtain ⟨p, rfl⟩ := hw2
    exact belowStep B1 (by have := B1.size; omega) (below_regrown V p.d p.os)
  clear hw2
  have HB : Hid _ := B2
  clear k0 k12 c1 c2 cB2 B1 B2
  go_wp2
  go_ret
  exact ⟨by simp [beqN], HB.out⟩
set_option maxHeartbeats 1000000 in
theorem rownNext_any (d : UpD) (hd : d.ok) (q : UpP) (w : World) : Calls Tryz.prog 50 #[.agg (upV d q).toArray] w fun x w' => x = .returned (.bool (ownB d)) ∧ Below w.heap.size w w' := by
  have KH := rhasNext_any d q
  have K1 := rperiod_any d.l.s hd.1.1
  have K2 := rperiod_any d.slot hd.2.2.2
  have h0 : (upV d q)[0]? = some (.int .u64 (d.l.s : Int)) := rfl
  have h24 : (upV d q)[24]? = some (.int .u64 (d.slot : Int)) := rfl
  have H25 : Hid ((upV d q).length = 25) := show _ from rfl
  unfold ownB
  obtain ⟨L, hL⟩ : ∃ L, upV d q = L := ⟨_, rfl⟩
  obtain ⟨x, hxx⟩ : ∃ x, d.l.s / 64 = x := ⟨_, rfl⟩
  obtain ⟨y, hyy⟩ : ∃ x, d.slot / 64 = x := ⟨_, rfl⟩
  obtain ⟨h, hh⟩ : ∃ x, hnB d = x := ⟨_, rfl⟩
  rw [hL] at h0 h24 KH H25 ⊢
  rw [hxx] at K1 ⊢
  rw [hyy] at K2 ⊢
  rw [hh] at KH ⊢
  clear hL hxx hyy hh
  obtain ⟨B1, hx, hs⟩ := box1 w (.cells L.toArray 36)
  obtain ⟨V, hV⟩ : ∃ V, w.alloc (.cells L.toArray 36) = V := ⟨_, rfl⟩
  obtain ⟨z, hz⟩ : ∃ z, w.heap.size = z := ⟨_, rfl⟩
  have HZ : Hid (w.heap.size = z) := hz
  rw [hV] at B1 hx hs
  rw [hz] at B1 hx hs
  have k0 := cell_regrown (cell_of_block hx 0 _ h0)
  have k24 := cell_regrown (cell_of_block hx 24 _ h24)
  have Q0 := rangeQ (range_all hx) (by omega)
  have c0 := inClass (w := V) KH
  have c1 := inClass (w := V) K1
  have c2 := inClass (w := V) K2
  have hB : Hid (_ ∧ _) := ⟨B1, (by omega : z ≤ V.heap.size)⟩
  clear hx hs h0 h24 KH K1 K2 B1
  go_enter Tryz.func50, Tryz.ntmps50
  cases h with
  | true =>
    go_wp2_with fail
    first | rw [hV] | skip
    first | rw [hz] | skip
    clear hV hz
    obtain ⟨B1, hzV⟩ := hB.out
    refine wp_region_quiet_below (by kernel_rfl) (by kernel_rfl) ?_
    refine Stp.out ?_
    refine quiet_load_S (by kernel_rfl) 36 _ rfl _ _ rfl _ _ Q0 Tryz.underlying36 rfl (by rw [H25.out]; kernel_rfl) ?_
    refine qs_step (fun K hK => ?_)
    go_simp
    apply Exists.intro
    refine ⟨fun _ => ?_, hK _ ?_⟩
    exact c0 _ _
    clear hK K
    iterate 5 (refine qs_step (fun K hK => ?_); go_simp; refine hK _ ?_; clear hK K)
    refine qs_step (fun K hK => ?_)
    go_simp
    apply Exists.intro
    refine ⟨fun _ => ?_, hK _ ?_⟩
    exact c1 _ _
    clear hK K
    iterate 2 (refine qs_step (fun K hK => ?_); go_simp; refine hK _ ?_; clear hK K)
    refine qs_step (fun K hK => ?_)
    go_simp
    apply Exists.intro
    refine ⟨fun _ => ?_, hK _ ?_⟩
    exact c2 _ _
    clear hK K
    iterate 3 (refine qs_step (fun K hK => ?_); go_simp; refine hK _ ?_; clear hK K)
    refine ⟨wpQuiet_nil ?_⟩
    intro w2 hw2
    have cB2 : Below V.heap.size V w2 := by
      obtain ⟨p, rfl⟩ := hw2
      exact below_regrown _ _ _
    have B2 : Below z w w2 := by
      obtain ⟨p, rfl⟩ := hw2
      exact belowStep B1 (by have := B1.size; omega) (below_regrown V p.d p.os)
    clear hw2
    have HB : Hid _ := B2
    clear k0 k24 c0 c1 c2 cB2 B1 B2 Q0 hB
    go_wp2
    go_ret
    rw [HZ.out]
    exact ⟨by simp [beqN], HB.out⟩
  | false =>
    go_wp2_with fail
    first | rw [hV] | skip
    first | rw [hz] | skip
    clear hV hz
    obtain ⟨B1, hzV⟩ := hB.out
    refine wp_region_quiet_below (by kernel_rfl) (by kernel_rfl) ?_
    refine Stp.out ?_
    refine quiet_load_S (by kernel_rfl) 36 _ rfl _ _ rfl _ _ Q0 Tryz.underlying36 rfl (by rw [H25.out]; kernel_rfl) ?_
    refine qs_step (fun K hK => ?_)
    go_simp
    apply Exists.intro
    refine ⟨fun _ => ?_, hK _ ?_⟩
    exact c0 _ _
    clear hK K
    iterate 12 (refine qs_step (fun K hK => ?_); go_simp; refine hK _ ?_; clear hK K)
    refine ⟨wpQuiet_nil ?_⟩
    intro w2 hw2
    have cB2 : Below V.heap.size V w2 := by
      obtain ⟨p, rfl⟩ := hw2
      exact below_regrown _ _ _
    have B2 : Below z w w2 := by
      obtain ⟨p, rfl⟩ := hw2
      exact belowStep B1 (by have := B1.size; omega) (below_regrown V p.d p.os)
    clear hw2
    have HB : Hid _ := B2
    clear k0 k24 c0 c1 c2 cB2 B1 B2 Q0 hB
    go_wp2
    go_ret
    rw [HZ.out]
    exact ⟨by simp, HB.out⟩
end Go.Proofs.YtoddangedbefgaaGreatDoor
namespace Go.Proofs.YtoddangedbefgaaGreatDoor
open Go.RowKit Go.Shelf Go.Sort

theorem wp_join {P : Program} {c : Code} {K : Act → World → Prop} {Q : Exit → Act → World → Prop} {a : Act} {w : World} (J : Act → World → Prop) (h : c.wp P (Exit.then J Q) a w) (hK : ∀ a w, J a w → K a w) : c.wp P (Exit.then K Q) a w :=
  wp_mono h fun e a w hq => by
    cases e <;> first | exact hK _ _ hq | exact hq
theorem inClassB {f : Nat} {args : Array Value} {v : Value} {n : Nat} {w V : World} (BW : Below n w V) (hn : n ≤ V.heap.size) (h : ∀ W, Below n w W → n ≤ W.heap.size → Calls Tryz.prog f args W fun e w' => e = .returned v ∧ Below W.heap.size W w') :
    ∀ d os, Calls Tryz.prog f args (grow (redrawn V d) os) fun e w'' => e = .returned v ∧ ∃ p : Regrown, w'' = grow (redrawn V p.d) p.os := fun d os => Calls.regrown_of (h _ (belowStep BW hn (below_regrown V d os)) (Nat.le_trans hn (below_regrown V d os).size))
/-- The document's order: the first in which they are not alike. -/
def rbB (a b : UpD) : Bool :=
  if (twB a.bits != twB b.bits) = true then twB a.bits
  else if (!twB a.bits && (sgN a.bits != sgN b.bits)) = true then decide (sgN b.bits < sgN a.bits)
  else if (ownB a != ownB b) = true then ownB a
  else if (fnB a != fnB b) = true then fnB a
  else if (fnB a && (ofB a != ofB b)) = true then ofB a
  else if (sgN a.bits != sgN b.bits) = true then decide (sgN b.bits < sgN a.bits)
  else if (a.l.s != b.l.s) = true then decide (a.l.s < b.l.s)
  else decide (a.slot < b.slot)
set_option maxRecDepth 20000 in
set_option maxHeartbeats 8000000 in
theorem rbetter_any (a b : UpD) (ha : a.ok) (hb : b.ok) (la : Lg a.f.br) (lb : Lg b.f.br) (qa qb : UpP) (n : Nat) (w : World) (hn : n ≤ w.heap.size) (hpa : slS n w qa.f.a a.f.br) (hpb : slS n w qb.f.a b.f.br) :
    Calls Tryz.prog 16 #[.agg (upV a qa).toArray, .agg (upV b qb).toArray] w fun x w' => x = .returned (.bool (rbB a b)) ∧ Below w.heap.size w w' := by
  have KSa := rsigners_any a.bits ha.2.2.1
  have KSb := rsigners_any b.bits hb.2.2.1
  have KTa := rtwoThirds_any a ha qa
  have KTb := rtwoThirds_any b hb qb
  have KOa := rownNext_any a ha qa
  have KOb := rownNext_any b hb qb
  have KWa := rownFinal_any a ha qa
  have KWb := rownFinal_any b hb qb
  have KFa := fun (W : World) (hB : Below w.heap.size w W) (hs : w.heap.size ≤ W.heap.size) => risFinal_any a la qa n W (Nat.le_trans hn hs) (slS_below (hB.mono hn) hpa)
  have KFb := fun (W : World) (hB : Below w.heap.size w W) (hs : w.heap.size ≤ W.heap.size) => risFinal_any b lb qb n W (Nat.le_trans hn hs) (slS_below (hB.mono hn) hpb)
  have a0 : (upV a qa)[0]? = some (.int .u64 (a.l.s : Int)) := rfl
  have a22 : (upV a qa)[22]? = some (.int .u64 (a.bits : Int)) := rfl
  have a24 : (upV a qa)[24]? = some (.int .u64 (a.slot : Int)) := rfl
  have b0 : (upV b qb)[0]? = some (.int .u64 (b.l.s : Int)) := rfl
  have b22 : (upV b qb)[22]? = some (.int .u64 (b.bits : Int)) := rfl
  have b24 : (upV b qb)[24]? = some (.int .u64 (b.slot : Int)) := rfl
  have HL : Hid ((upV a qa).length = 25 ∧ (upV b qb).length = 25) := show _ from ⟨rfl, rfl⟩
  have hR : rbB a b = if (twB a.bits != twB b.bits) = true then twB a.bits
    else if (!twB a.bits && (sgN a.bits != sgN b.bits)) = true then decide (sgN b.bits < sgN a.bits)
    else if (ownB a != ownB b) = true then ownB a
    else if (fnB a != fnB b) = true then fnB a
    else if (fnB a && (ofB a != ofB b)) = true then ofB a
    else if (sgN a.bits != sgN b.bits) = true then decide (sgN b.bits < sgN a.bits)
    else if (a.l.s != b.l.s) = true then decide (a.l.s < b.l.s)
    else decide (a.slot < b.slot) := rfl
  obtain ⟨R, hRR⟩ : ∃ R, rbB a b = R := ⟨_, rfl⟩
  obtain ⟨LA, hLA⟩ : ∃ L, upV a qa = L := ⟨_, rfl⟩
  obtain ⟨LB, hLB⟩ : ∃ L, upV b qb = L := ⟨_, rfl⟩
  obtain ⟨ta, hta⟩ : ∃ x, twB a.bits = x := ⟨_, rfl⟩
  obtain ⟨tb, htb⟩ : ∃ x, twB b.bits = x := ⟨_, rfl⟩
  obtain ⟨oa, hoa⟩ : ∃ x, ownB a = x := ⟨_, rfl⟩
  obtain ⟨ob, hob⟩ : ∃ x, ownB b = x := ⟨_, rfl⟩
  obtain ⟨fa, hfa⟩ : ∃ x, fnB a = x := ⟨_, rfl⟩
  obtain ⟨fb, hfb⟩ : ∃ x, fnB b = x := ⟨_, rfl⟩
  obtain ⟨wa, hwa⟩ : ∃ x, ofB a = x := ⟨_, rfl⟩
  obtain ⟨wb, hwb⟩ : ∃ x, ofB b = x := ⟨_, rfl⟩
  obtain ⟨x, hx⟩ : ∃ x, sgN a.bits = x := ⟨_, rfl⟩
  obtain ⟨y, hy⟩ : ∃ x, sgN b.bits = x := ⟨_, rfl⟩
  obtain ⟨sa, hsa⟩ : ∃ x, a.l.s = x := ⟨_, rfl⟩
  obtain ⟨sb, hsb⟩ : ∃ x, b.l.s = x := ⟨_, rfl⟩
  obtain ⟨la', hla⟩ : ∃ x, a.slot = x := ⟨_, rfl⟩
  obtain ⟨lb', hlb⟩ : ∃ x, b.slot = x := ⟨_, rfl⟩
  rw [hta, htb, hoa, hob, hfa, hfb, hwa, hwb, hx, hy, hsa, hsb, hla, hlb, hRR] at hR
  rw [hLA] at KTa KOa KWa KFa a0 a22 a24 HL
  rw [hLB] at KTb KOb KWb KFb b0 b22 b24 HL
  rw [hta] at KTa
  rw [htb] at KTb
  rw [hoa] at KOa
  rw [hob] at KOb
  rw [hfa] at KFa
  rw [hfb] at KFb
  rw [hwa] at KWa
  rw [hwb] at KWb
  rw [hx] at KSa
  rw [hy] at KSb
  rw [hsa] at a0
  rw [hsb] at b0
  rw [hla] at a24
  rw [hlb] at b24
  rw [hLA, hLB, hRR]
  have HR : Hid _ := hR
  clear hRR hLA hLB hta htb hoa hob hfa hfb hwa hwb hx hy hsa hsb hla hlb hR ha hb la lb hpa hpb hn
  obtain ⟨B1, xA, xB, hs⟩ := box2 w (.cells LA.toArray 36) (.cells LB.toArray 36)
  obtain ⟨z, hz⟩ : ∃ z, w.heap.size = z := ⟨_, rfl⟩
  have HZ : Hid (w.heap.size = z) := hz
  rw [hz] at B1 xA xB hs KFa KFb
  have d22 := cell_of_block xA 22 _ a22
  go_enter Tryz.func16, Tryz.ntmps16
  go_wp2_with fail
  refine (KSa _).mono ?_
  rintro e V1 ⟨rfl, C1⟩
  have yA := (C1.block z (by omega)).trans xA
  have yB := (C1.block (z + 1) (by omega)).trans xB
  have BV1 := belowStep B1 (by omega) C1
  have s1 := C1.size
  have d22 := cell_of_block yB 22 _ b22
  have hs1 : z + 2 ≤ V1.heap.size := by omega
  clear xA xB hs B1 C1 KSa hz s1
  go_wp2_with fail
  refine (KSb _).mono ?_
  rintro e V2 ⟨rfl, C2⟩
  have xA2 : Bq z 36 LA.toArray V2 := (C2.block z (by omega)).trans yA
  have xB2 : Bq (z + 1) 36 LB.toArray V2 := (C2.block (z + 1) (by omega)).trans yB
  have BV2 := belowStep BV1 (by omega) C2
  have hs2 : z + 2 ≤ V2.heap.size := by have := C2.size; omega
  clear yA yB BV1 C2 KSb d22 hs1
  go_wp2_with fail
  have Qa := rangeQ (range_all xA2) (by omega)
  have Qb := rangeQ (range_all xB2) (by omega)
  have ca := inClass (w := V2) KTa
  have cb := inClass (w := V2) KTb
  refine wp_region_quiet_below (by kernel_rfl) (by kernel_rfl) ?_
  refine Stp.out ?_
  refine quiet_load_S (by kernel_rfl) 36 _ rfl _ _ rfl _ _ Qa Tryz.underlying36 rfl (by rw [HL.out.1]; kernel_rfl) ?_
  refine qs_step (fun K hK => ?_)
  go_simp
  apply Exists.intro
  refine ⟨fun _ => ?_, hK _ ?_⟩
  exact ca _ _
  clear hK K
  refine quiet_load_S (by kernel_rfl) 36 _ rfl _ _ rfl _ _ Qb Tryz.underlying36 rfl (by rw [HL.out.2]; kernel_rfl) ?_
  refine qs_step (fun K hK => ?_)
  go_simp
  apply Exists.intro
  refine ⟨fun _ => ?_, hK _ ?_⟩
  exact cb _ _
  clear hK K
  iterate 1 (refine qs_step (fun K hK => ?_); go_simp; refine hK _ ?_; clear hK K)
  refine ⟨wpQuiet_nil ?_⟩
  intro V3 hV3
  have cBV3 : Below V2.heap.size V2 V3 := by
    obtain ⟨p, rfl⟩ := hV3
    exact below_regrown _ _ _
  have BV3 : Below z w V3 := by
    obtain ⟨p, rfl⟩ := hV3
    exact belowStep BV2 (by have := BV2.size; omega) (below_regrown V2 p.d p.os)
  clear hV3
  have xA3 : Bq z 36 LA.toArray V3 := Bq.below xA2 cBV3
  have xB3 : Bq (z + 1) 36 LB.toArray V3 := Bq.below xB2 cBV3
  have hs3 : z + 2 ≤ V3.heap.size := by have := cBV3.size; omega
  clear Qa Qb ca cb xA2 xB2 BV2 cBV3 hs2
  cases h1 : (ta == tb) with
  | false =>
    have R0 := range_all xA3
    go_wp2_with (refine wpList_load_mid rfl 36 (.tmp 2) rfl z 0 rfl _ _ R0 Tryz.underlying36 rfl (by rw [HL.out.1]; kernel_rfl) ?_)
    refine (KTa _).mono ?_
    rintro e V5 ⟨rfl, C⟩
    have HB : Hid _ := belowStep BV3 (by omega) C
    clear R0 C xA3 xB3 BV3 hs3
    go_wp2
    go_ret
    rw [HZ.out]
    exact ⟨by rw [HR.out]; simp [bne, h1], HB.out⟩
  | true =>
    have R0 := range_all xA3
    go_wp2_with (refine wpList_load_mid rfl 36 (.tmp 2) rfl z 0 rfl _ _ R0 Tryz.underlying36 rfl (by rw [HL.out.1]; kernel_rfl) ?_)
    refine (KTa _).mono ?_
    rintro e V6 ⟨rfl, C⟩
    have xA6 : Bq z 36 LA.toArray V6 := Bq.below xA3 C
    have xB6 : Bq (z + 1) 36 LB.toArray V6 := Bq.below xB3 C
    have BV6 := belowStep BV3 (by omega) C
    have hs6 : z + 2 ≤ V6.heap.size := by have := C.size; omega
    clear R0 C xA3 xB3 BV3 hs3
    cases ta with
    | true =>
      go_wp2_with fail
      have Qa := rangeQ (range_all xA6) (by omega)
      have Qb := rangeQ (range_all xB6) (by omega)
      have ca := inClass (w := V6) KOa
      have cb := inClass (w := V6) KOb
      refine wp_region_quiet_below (by kernel_rfl) (by kernel_rfl) ?_
      refine Stp.out ?_
      refine quiet_load_S (by kernel_rfl) 36 _ rfl _ _ rfl _ _ Qa Tryz.underlying36 rfl (by rw [HL.out.1]; kernel_rfl) ?_
      refine qs_step (fun K hK => ?_)
      go_simp
      apply Exists.intro
      refine ⟨fun _ => ?_, hK _ ?_⟩
      exact ca _ _
      clear hK K
      refine quiet_load_S (by kernel_rfl) 36 _ rfl _ _ rfl _ _ Qb Tryz.underlying36 rfl (by rw [HL.out.2]; kernel_rfl) ?_
      refine qs_step (fun K hK => ?_)
      go_simp
      apply Exists.intro
      refine ⟨fun _ => ?_, hK _ ?_⟩
      exact cb _ _
      clear hK K
      iterate 1 (refine qs_step (fun K hK => ?_); go_simp; refine hK _ ?_; clear hK K)
      refine ⟨wpQuiet_nil ?_⟩
      intro V7 hV7
      have cBV7 : Below V6.heap.size V6 V7 := by
        obtain ⟨p, rfl⟩ := hV7
        exact below_regrown _ _ _
      have BV7 : Below z w V7 := by
        obtain ⟨p, rfl⟩ := hV7
        exact belowStep BV6 (by have := BV6.size; omega) (below_regrown V6 p.d p.os)
      clear hV7
      have xA7 : Bq z 36 LA.toArray V7 := Bq.below xA6 cBV7
      have xB7 : Bq (z + 1) 36 LB.toArray V7 := Bq.below xB6 cBV7
      have hs7 : z + 2 ≤ V7.heap.size := by have := cBV7.size; omega
      clear Qa Qb ca cb xA6 xB6 BV6 cBV7 hs6
      cases h3 : (oa == ob) with
      | false =>
        have R0 := range_all xA7
        go_wp2_with (refine wpList_load_mid rfl 36 (.tmp 2) rfl z 0 rfl _ _ R0 Tryz.underlying36 rfl (by rw [HL.out.1]; kernel_rfl) ?_)
        refine (KOa _).mono ?_
        rintro e V9 ⟨rfl, C⟩
        have HB : Hid _ := belowStep BV7 (by omega) C
        clear R0 C xA7 xB7 BV7 hs7
        go_wp2
        go_ret
        rw [HZ.out]
        exact ⟨by rw [HR.out]; simp [bne, h1, h3], HB.out⟩
      | true =>
        go_wp2_with fail
        have Qa := rangeQ (range_all xA7) (by omega)
        have Qb := rangeQ (range_all xB7) (by omega)
        have ca := inClassB BV7 (by omega) KFa
        have cb := inClassB BV7 (by omega) KFb
        refine wp_region_quiet_below (by kernel_rfl) (by kernel_rfl) ?_
        refine Stp.out ?_
        refine quiet_load_S (by kernel_rfl) 36 _ rfl _ _ rfl _ _ Qa Tryz.underlying36 rfl (by rw [HL.out.1]; kernel_rfl) ?_
        refine qs_step (fun K hK => ?_)
        go_simp
        apply Exists.intro
        refine ⟨fun _ => ?_, hK _ ?_⟩
        exact ca _ _
        clear hK K
        refine quiet_load_S (by kernel_rfl) 36 _ rfl _ _ rfl _ _ Qb Tryz.underlying36 rfl (by rw [HL.out.2]; kernel_rfl) ?_
        refine qs_step (fun K hK => ?_)
        go_simp
        apply Exists.intro
        refine ⟨fun _ => ?_, hK _ ?_⟩
        exact cb _ _
        clear hK K
        iterate 1 (refine qs_step (fun K hK => ?_); go_simp; refine hK _ ?_; clear hK K)
        refine ⟨wpQuiet_nil ?_⟩
        intro V10 hV10
        have cBV10 : Below V7.heap.size V7 V10 := by
          obtain ⟨p, rfl⟩ := hV10
          exact below_regrown _ _ _
        have BV10 : Below z w V10 := by
          obtain ⟨p, rfl⟩ := hV10
          exact belowStep BV7 (by have := BV7.size; omega) (below_regrown V7 p.d p.os)
        clear hV10
        have xA10 : Bq z 36 LA.toArray V10 := Bq.below xA7 cBV10
        have xB10 : Bq (z + 1) 36 LB.toArray V10 := Bq.below xB7 cBV10
        have hs10 : z + 2 ≤ V10.heap.size := by have := cBV10.size; omega
        clear Qa Qb ca cb xA7 xB7 BV7 cBV10 hs7
        cases h4 : (fa == fb) with
        | false =>
          have R0 := range_all xA10
          go_wp2_with (refine wpList_load_mid rfl 36 (.tmp 2) rfl z 0 rfl _ _ R0 Tryz.underlying36 rfl (by rw [HL.out.1]; kernel_rfl) ?_)
          refine (KFa _ BV10 (by omega)).mono ?_
          rintro e V12 ⟨rfl, C⟩
          have HB : Hid _ := belowStep BV10 (by omega) C
          clear R0 C xA10 xB10 BV10 hs10
          go_wp2
          go_ret
          rw [HZ.out]
          exact ⟨by rw [HR.out]; simp [bne, h1, h3, h4], HB.out⟩
        | true =>
          go_wp2_with fail
          have Qa := rangeQ (range_all xA10) (by omega)
          have Qb := rangeQ (range_all xB10) (by omega)
          have ca := inClassB BV10 (by omega) KFa
          have cb := inClass (w := V10) KWa
          have cc := inClass (w := V10) KWb
          cases fa with
          | false =>
            refine wp_region_quiet_below (by kernel_rfl) (by kernel_rfl) ?_
            refine Stp.out ?_
            refine quiet_load_S (by kernel_rfl) 36 _ rfl _ _ rfl _ _ Qa Tryz.underlying36 rfl (by rw [HL.out.1]; kernel_rfl) ?_
            refine qs_step (fun K hK => ?_)
            go_simp
            apply Exists.intro
            refine ⟨fun _ => ?_, hK _ ?_⟩
            exact ca _ _
            clear hK K
            iterate 1 (refine qs_step (fun K hK => ?_); go_simp; refine hK _ ?_; clear hK K)
            iterate 6 (refine qs_step (fun K hK => ?_); go_simp; refine hK _ ?_; clear hK K)
            refine ⟨wpQuiet_nil ?_⟩
            intro V13 hV13
            have cBV13 : Below V10.heap.size V10 V13 := by
              obtain ⟨p, rfl⟩ := hV13
              exact below_regrown _ _ _
            have BV13 : Below z w V13 := by
              obtain ⟨p, rfl⟩ := hV13
              exact belowStep BV10 (by have := BV10.size; omega) (below_regrown V10 p.d p.os)
            clear hV13
            have xA13 : Bq z 36 LA.toArray V13 := Bq.below xA10 cBV13
            have xB13 : Bq (z + 1) 36 LB.toArray V13 := Bq.below xB10 cBV13
            have hs13 : z + 2 ≤ V13.heap.size := by have := cBV13.size; omega
            clear Qa Qb ca cb cc xA10 xB10 BV10 cBV13 hs10
            cases h6 : decide (x = y) with
            | false =>
              have i2 : ((x : Int) == (y : Int)) = false := by rw [beqN]; exact h6
              have j6 : (x == y) = false := by rw [beq_eq_false_iff_ne]; exact of_decide_eq_false h6
              have HB : Hid _ := BV13
              clear xA13 xB13 BV13 hs13
              go_wp2
              go_ret
              rw [HZ.out]
              exact ⟨by rw [HR.out]; simp [bne, h1, h3, h4, j6], HB.out⟩
            | true =>
              have i2 : ((x : Int) == (y : Int)) = true := by rw [beqN]; exact h6
              have j6 : (x == y) = true := by rw [beq_iff_eq]; exact of_decide_eq_true h6
              have HB : Hid _ := BV13
              have e0 := cell_of_block xA13 0 _ a0
              have e1 := cell_of_block xB13 0 _ b0
              have e2 := cell_of_block xA13 24 _ a24
              have e3 := cell_of_block xB13 24 _ b24
              clear xA13 xB13 BV13 hs13 KTa KTb KOa KOb KWa KWb KFa KFb a0 a24 b0 b24
              cases h7 : decide (sa = sb) with
              | false =>
                have i7 : ((sa : Int) == (sb : Int)) = false := by rw [beqN]; exact h7
                have j7 : (sa == sb) = false := by rw [beq_eq_false_iff_ne]; exact of_decide_eq_false h7
                go_wp2
                go_ret
                rw [HZ.out]
                exact ⟨by rw [HR.out]; simp [bne, h1, h3, h4, j6, j7], HB.out⟩
              | true =>
                have i7 : ((sa : Int) == (sb : Int)) = true := by rw [beqN]; exact h7
                have j7 : (sa == sb) = true := by rw [beq_iff_eq]; exact of_decide_eq_true h7
                go_wp2
                go_ret
                rw [HZ.out]
                exact ⟨by rw [HR.out]; simp [bne, h1, h3, h4, j6, j7], HB.out⟩
          | true =>
            refine wp_region_quiet_below (by kernel_rfl) (by kernel_rfl) ?_
            refine Stp.out ?_
            refine quiet_load_S (by kernel_rfl) 36 _ rfl _ _ rfl _ _ Qa Tryz.underlying36 rfl (by rw [HL.out.1]; kernel_rfl) ?_
            refine qs_step (fun K hK => ?_)
            go_simp
            apply Exists.intro
            refine ⟨fun _ => ?_, hK _ ?_⟩
            exact ca _ _
            clear hK K
            iterate 1 (refine qs_step (fun K hK => ?_); go_simp; refine hK _ ?_; clear hK K)
            refine quiet_load_S (by kernel_rfl) 36 _ rfl _ _ rfl _ _ Qa Tryz.underlying36 rfl (by rw [HL.out.1]; kernel_rfl) ?_
            refine qs_step (fun K hK => ?_)
            go_simp
            apply Exists.intro
            refine ⟨fun _ => ?_, hK _ ?_⟩
            exact cb _ _
            clear hK K
            refine quiet_load_S (by kernel_rfl) 36 _ rfl _ _ rfl _ _ Qb Tryz.underlying36 rfl (by rw [HL.out.2]; kernel_rfl) ?_
            refine qs_step (fun K hK => ?_)
            go_simp
            apply Exists.intro
            refine ⟨fun _ => ?_, hK _ ?_⟩
            exact cc _ _
            clear hK K
            iterate 2 (refine qs_step (fun K hK => ?_); go_simp; refine hK _ ?_; clear hK K)
            refine ⟨wpQuiet_nil ?_⟩
            intro V14 hV14
            have cBV14 : Below V10.heap.size V10 V14 := by
              obtain ⟨p, rfl⟩ := hV14
              exact below_regrown _ _ _
            have BV14 : Below z w V14 := by
              obtain ⟨p, rfl⟩ := hV14
              exact belowStep BV10 (by have := BV10.size; omega) (below_regrown V10 p.d p.os)
            clear hV14
            have xA14 : Bq z 36 LA.toArray V14 := Bq.below xA10 cBV14
            have xB14 : Bq (z + 1) 36 LB.toArray V14 := Bq.below xB10 cBV14
            have hs14 : z + 2 ≤ V14.heap.size := by have := cBV14.size; omega
            clear Qa Qb ca cb cc xA10 xB10 BV10 cBV14 hs10
            cases h5 : (wa == wb) with
            | false =>
              have R0 := range_all xA14
              go_wp2_with (refine wpList_load_mid rfl 36 (.tmp 2) rfl z 0 rfl _ _ R0 Tryz.underlying36 rfl (by rw [HL.out.1]; kernel_rfl) ?_)
              refine (KWa _).mono ?_
              rintro e V15 ⟨rfl, C⟩
              have HB : Hid _ := belowStep BV14 (by omega) C
              clear R0 C xA14 xB14 BV14 hs14
              go_wp2
              go_ret
              rw [HZ.out]
              exact ⟨by rw [HR.out]; simp [bne, h1, h3, h4, h5], HB.out⟩
            | true =>
              cases h6 : decide (x = y) with
              | false =>
                have i2 : ((x : Int) == (y : Int)) = false := by rw [beqN]; exact h6
                have j6 : (x == y) = false := by rw [beq_eq_false_iff_ne]; exact of_decide_eq_false h6
                have HB : Hid _ := BV14
                clear xA14 xB14 BV14 hs14
                go_wp2
                go_ret
                rw [HZ.out]
                exact ⟨by rw [HR.out]; simp [bne, h1, h3, h4, h5, j6], HB.out⟩
              | true =>
                have i2 : ((x : Int) == (y : Int)) = true := by rw [beqN]; exact h6
                have j6 : (x == y) = true := by rw [beq_iff_eq]; exact of_decide_eq_true h6
                have HB : Hid _ := BV14
                have e0 := cell_of_block xA14 0 _ a0
                have e1 := cell_of_block xB14 0 _ b0
                have e2 := cell_of_block xA14 24 _ a24
                have e3 := cell_of_block xB14 24 _ b24
                clear xA14 xB14 BV14 hs14 KTa KTb KOa KOb KWa KWb KFa KFb a0 a24 b0 b24
                cases h7 : decide (sa = sb) with
                | false =>
                  have i7 : ((sa : Int) == (sb : Int)) = false := by rw [beqN]; exact h7
                  have j7 : (sa == sb) = false := by rw [beq_eq_false_iff_ne]; exact of_decide_eq_false h7
                  go_wp2
                  go_ret
                  rw [HZ.out]
                  exact ⟨by rw [HR.out]; simp [bne, h1, h3, h4, h5, j6, j7], HB.out⟩
                | true =>
                  have i7 : ((sa : Int) == (sb : Int)) = true := by rw [beqN]; exact h7
                  have j7 : (sa == sb) = true := by rw [beq_iff_eq]; exact of_decide_eq_true h7
                  go_wp2
                  go_ret
                  rw [HZ.out]
                  exact ⟨by rw [HR.out]; simp [bne, h1, h3, h4, h5, j6, j7], HB.out⟩
    | false =>
      cases h2 : decide (x = y) with
      | false =>
        have i2 : ((x : Int) == (y : Int)) = false := by rw [beqN]; exact h2
        have j2 : (x == y) = false := by rw [beq_eq_false_iff_ne]; exact of_decide_eq_false h2
        have HB : Hid _ := BV6
        clear xA6 xB6 BV6 hs6
        go_wp2
        go_ret
        rw [HZ.out]
        exact ⟨by rw [HR.out]; simp [bne, h1, j2], HB.out⟩
      | true =>
        have i2 : ((x : Int) == (y : Int)) = true := by rw [beqN]; exact h2
        have j2 : (x == y) = true := by rw [beq_iff_eq]; exact of_decide_eq_true h2
        go_wp2_with fail
        have Qa := rangeQ (range_all xA6) (by omega)
        have Qb := rangeQ (range_all xB6) (by omega)
        have ca := inClass (w := V6) KOa
        have cb := inClass (w := V6) KOb
        refine wp_region_quiet_below (by kernel_rfl) (by kernel_rfl) ?_
        refine Stp.out ?_
        refine quiet_load_S (by kernel_rfl) 36 _ rfl _ _ rfl _ _ Qa Tryz.underlying36 rfl (by rw [HL.out.1]; kernel_rfl) ?_
        refine qs_step (fun K hK => ?_)
        go_simp
        apply Exists.intro
        refine ⟨fun _ => ?_, hK _ ?_⟩
        exact ca _ _
        clear hK K
        refine quiet_load_S (by kernel_rfl) 36 _ rfl _ _ rfl _ _ Qb Tryz.underlying36 rfl (by rw [HL.out.2]; kernel_rfl) ?_
        refine qs_step (fun K hK => ?_)
        go_simp
        apply Exists.intro
        refine ⟨fun _ => ?_, hK _ ?_⟩
        exact cb _ _
        clear hK K
        iterate 1 (refine qs_step (fun K hK => ?_); go_simp; refine hK _ ?_; clear hK K)
        refine ⟨wpQuiet_nil ?_⟩
        intro V16 hV16
        have cBV16 : Below V6.heap.size V6 V16 := by
          obtain ⟨p, rfl⟩ := hV16
          exact below_regrown _ _ _
        have BV16 : Below z w V16 := by
          obtain ⟨p, rfl⟩ := hV16
          exact belowStep BV6 (by have := BV6.size; omega) (below_regrown V6 p.d p.os)
        clear hV16
        have xA16 : Bq z 36 LA.toArray V16 := Bq.below xA6 cBV16
        have xB16 : Bq (z + 1) 36 LB.toArray V16 := Bq.below xB6 cBV16
        have hs16 : z + 2 ≤ V16.heap.size := by have := cBV16.size; omega
        clear Qa Qb ca cb xA6 xB6 BV6 cBV16 hs6
        cases h3 : (oa == ob) with
        | false =>
          have R0 := range_all xA16
          go_wp2_with (refine wpList_load_mid rfl 36 (.tmp 2) rfl z 0 rfl _ _ R0 Tryz.underlying36 rfl (by rw [HL.out.1]; kernel_rfl) ?_)
          refine (KOa _).mono ?_
          rintro e V18 ⟨rfl, C⟩
          have HB : Hid _ := belowStep BV16 (by omega) C
          clear R0 C xA16 xB16 BV16 hs16
          go_wp2
          go_ret
          rw [HZ.out]
          exact ⟨by rw [HR.out]; simp [bne, h1, j2, h3], HB.out⟩
        | true =>
          go_wp2_with fail
          have Qa := rangeQ (range_all xA16) (by omega)
          have Qb := rangeQ (range_all xB16) (by omega)
          have ca := inClassB BV16 (by omega) KFa
          have cb := inClassB BV16 (by omega) KFb
          refine wp_region_quiet_below (by kernel_rfl) (by kernel_rfl) ?_
          refine Stp.out ?_
          refine quiet_load_S (by kernel_rfl) 36 _ rfl _ _ rfl _ _ Qa Tryz.underlying36 rfl (by rw [HL.out.1]; kernel_rfl) ?_
          refine qs_step (fun K hK => ?_)
          go_simp
          apply Exists.intro
          refine ⟨fun _ => ?_, hK _ ?_⟩
          exact ca _ _
          clear hK K
          refine quiet_load_S (by kernel_rfl) 36 _ rfl _ _ rfl _ _ Qb Tryz.underlying36 rfl (by rw [HL.out.2]; kernel_rfl) ?_
          refine qs_step (fun K hK => ?_)
          go_simp
          apply Exists.intro
          refine ⟨fun _ => ?_, hK _ ?_⟩
          exact cb _ _
          clear hK K
          iterate 1 (refine qs_step (fun K hK => ?_); go_simp; refine hK _ ?_; clear hK K)
          refine ⟨wpQuiet_nil ?_⟩
          intro V19 hV19
          have cBV19 : Below V16.heap.size V16 V19 := by
            obtain ⟨p, rfl⟩ := hV19
            exact below_regrown _ _ _
          have BV19 : Below z w V19 := by
            obtain ⟨p, rfl⟩ := hV19
            exact belowStep BV16 (by have := BV16.size; omega) (below_regrown V16 p.d p.os)
          clear hV19
          have xA19 : Bq z 36 LA.toArray V19 := Bq.below xA16 cBV19
          have xB19 : Bq (z + 1) 36 LB.toArray V19 := Bq.below xB16 cBV19
          have hs19 : z + 2 ≤ V19.heap.size := by have := cBV19.size; omega
          clear Qa Qb ca cb xA16 xB16 BV16 cBV19 hs16
          cases h4 : (fa == fb) with
          | false =>
            have R0 := range_all xA19
            go_wp2_with (refine wpList_load_mid rfl 36 (.tmp 2) rfl z 0 rfl _ _ R0 Tryz.underlying36 rfl (by rw [HL.out.1]; kernel_rfl) ?_)
            refine (KFa _ BV19 (by omega)).mono ?_
            rintro e V21 ⟨rfl, C⟩
            have HB : Hid _ := belowStep BV19 (by omega) C
            clear R0 C xA19 xB19 BV19 hs19
            go_wp2
            go_ret
            rw [HZ.out]
            exact ⟨by rw [HR.out]; simp [bne, h1, j2, h3, h4], HB.out⟩
          | true =>
            go_wp2_with fail
            have Qa := rangeQ (range_all xA19) (by omega)
            have Qb := rangeQ (range_all xB19) (by omega)
            have ca := inClassB BV19 (by omega) KFa
            have cb := inClass (w := V19) KWa
            have cc := inClass (w := V19) KWb
            cases fa with
            | false =>
              refine wp_region_quiet_below (by kernel_rfl) (by kernel_rfl) ?_
              refine Stp.out ?_
              refine quiet_load_S (by kernel_rfl) 36 _ rfl _ _ rfl _ _ Qa Tryz.underlying36 rfl (by rw [HL.out.1]; kernel_rfl) ?_
              refine qs_step (fun K hK => ?_)
              go_simp
              apply Exists.intro
              refine ⟨fun _ => ?_, hK _ ?_⟩
              exact ca _ _
              clear hK K
              iterate 1 (refine qs_step (fun K hK => ?_); go_simp; refine hK _ ?_; clear hK K)
              iterate 6 (refine qs_step (fun K hK => ?_); go_simp; refine hK _ ?_; clear hK K)
              refine ⟨wpQuiet_nil ?_⟩
              intro V22 hV22
              have cBV22 : Below V19.heap.size V19 V22 := by
                obtain ⟨p, rfl⟩ := hV22
                exact below_regrown _ _ _
              have BV22 : Below z w V22 := by
                obtain ⟨p, rfl⟩ := hV22
                exact belowStep BV19 (by have := BV19.size; omega) (below_regrown V19 p.d p.os)
              clear hV22
              have xA22 : Bq z 36 LA.toArray V22 := Bq.below xA19 cBV22
              have xB22 : Bq (z + 1) 36 LB.toArray V22 := Bq.below xB19 cBV22
              have hs22 : z + 2 ≤ V22.heap.size := by have := cBV22.size; omega
              clear Qa Qb ca cb cc xA19 xB19 BV19 cBV22 hs19
              have HB : Hid _ := BV22
              have e0 := cell_of_block xA22 0 _ a0
              have e1 := cell_of_block xB22 0 _ b0
              have e2 := cell_of_block xA22 24 _ a24
              have e3 := cell_of_block xB22 24 _ b24
              clear xA22 xB22 BV22 hs22 KTa KTb KOa KOb KWa KWb KFa KFb a0 a24 b0 b24
              cases h7 : decide (sa = sb) with
              | false =>
                have i7 : ((sa : Int) == (sb : Int)) = false := by rw [beqN]; exact h7
                have j7 : (sa == sb) = false := by rw [beq_eq_false_iff_ne]; exact of_decide_eq_false h7
                go_wp2
                go_ret
                rw [HZ.out]
                exact ⟨by rw [HR.out]; simp [bne, h1, j2, h3, h4, j7], HB.out⟩
              | true =>
                have i7 : ((sa : Int) == (sb : Int)) = true := by rw [beqN]; exact h7
                have j7 : (sa == sb) = true := by rw [beq_iff_eq]; exact of_decide_eq_true h7
                go_wp2
                go_ret
                rw [HZ.out]
                exact ⟨by rw [HR.out]; simp [bne, h1, j2, h3, h4, j7], HB.out⟩
            | true =>
              refine wp_region_quiet_below (by kernel_rfl) (by kernel_rfl) ?_
              refine Stp.out ?_
              refine quiet_load_S (by kernel_rfl) 36 _ rfl _ _ rfl _ _ Qa Tryz.underlying36 rfl (by rw [HL.out.1]; kernel_rfl) ?_
              refine qs_step (fun K hK => ?_)
              go_simp
              apply Exists.intro
              refine ⟨fun _ => ?_, hK _ ?_⟩
              exact ca _ _
              clear hK K
              iterate 1 (refine qs_step (fun K hK => ?_); go_simp; refine hK _ ?_; clear hK K)
              refine quiet_load_S (by kernel_rfl) 36 _ rfl _ _ rfl _ _ Qa Tryz.underlying36 rfl (by rw [HL.out.1]; kernel_rfl) ?_
              refine qs_step (fun K hK => ?_)
              go_simp
              apply Exists.intro
              refine ⟨fun _ => ?_, hK _ ?_⟩
              exact cb _ _
              clear hK K
              refine quiet_load_S (by kernel_rfl) 36 _ rfl _ _ rfl _ _ Qb Tryz.underlying36 rfl (by rw [HL.out.2]; kernel_rfl) ?_
              refine qs_step (fun K hK => ?_)
              go_simp
              apply Exists.intro
              refine ⟨fun _ => ?_, hK _ ?_⟩
              exact cc _ _
              clear hK K
              iterate 2 (refine qs_step (fun K hK => ?_); go_simp; refine hK _ ?_; clear hK K)
              refine ⟨wpQuiet_nil ?_⟩
              intro V23 hV23
              have cBV23 : Below V19.heap.size V19 V23 := by
                obtain ⟨p, rfl⟩ := hV23
                exact below_regrown _ _ _
              have BV23 : Below z w V23 := by
                obtain ⟨p, rfl⟩ := hV23
                exact belowStep BV19 (by have := BV19.size; omega) (below_regrown V19 p.d p.os)
              clear hV23
              have xA23 : Bq z 36 LA.toArray V23 := Bq.below xA19 cBV23
              have xB23 : Bq (z + 1) 36 LB.toArray V23 := Bq.below xB19 cBV23
              have hs23 : z + 2 ≤ V23.heap.size := by have := cBV23.size; omega
              clear Qa Qb ca cb cc xA19 xB19 BV19 cBV23 hs19
              cases h5 : (wa == wb) with
              | false =>
                have R0 := range_all xA23
                go_wp2_with (refine wpList_load_mid rfl 36 (.tmp 2) rfl z 0 rfl _ _ R0 Tryz.underlying36 rfl (by rw [HL.out.1]; kernel_rfl) ?_)
                refine (KWa _).mono ?_
                rintro e V24 ⟨rfl, C⟩
                have HB : Hid _ := belowStep BV23 (by omega) C
                clear R0 C xA23 xB23 BV23 hs23
                go_wp2
                go_ret
                rw [HZ.out]
                exact ⟨by rw [HR.out]; simp [bne, h1, j2, h3, h4, h5], HB.out⟩
              | true =>
                have HB : Hid _ := BV23
                have e0 := cell_of_block xA23 0 _ a0
                have e1 := cell_of_block xB23 0 _ b0
                have e2 := cell_of_block xA23 24 _ a24
                have e3 := cell_of_block xB23 24 _ b24
                clear xA23 xB23 BV23 hs23 KTa KTb KOa KOb KWa KWb KFa KFb a0 a24 b0 b24
                cases h7 : decide (sa = sb) with
                | false =>
                  have i7 : ((sa : Int) == (sb : Int)) = false := by rw [beqN]; exact h7
                  have j7 : (sa == sb) = false := by rw [beq_eq_false_iff_ne]; exact of_decide_eq_false h7
                  go_wp2
                  go_ret
                  rw [HZ.out]
                  exact ⟨by rw [HR.out]; simp [bne, h1, j2, h3, h4, h5, j7], HB.out⟩
                | true =>
                  have i7 : ((sa : Int) == (sb : Int)) = true := by rw [beqN]; exact h7
                  have j7 : (sa == sb) = true := by rw [beq_iff_eq]; exact of_decide_eq_true h7
                  go_wp2
                  go_ret
                  rw [HZ.out]
                  exact ⟨by rw [HR.out]; simp [bne, h1, j2, h3, h4, h5, j7], HB.out⟩
end Go.Proofs.YtoddangedbefgaaGreatDoor
namespace Go.Proofs.YtoddangedbefgaaGreatDoor
open Go.RowKit Go.Shelf Go.Sort

theorem mr_ext (m n : Mr) : m = n ↔ m.1 = n.1 ∧ m.2 = n.2 := by
  obtain ⟨a, b⟩ := m
  obtain ⟨c, d⟩ := n
  simp
theorem betR_cons (m n : Mr) (R S : List Mr) : betR (m :: R) (n :: S) = if m = n then betR R S else ovB m n := rfl
theorem ovB_eq (m n : Mr) : ovB m n = if (m.1 == n.1) = true then decide (n.2 < m.2) else m.1 := rfl
theorem better_is (a b : UpD) (ha : a.ok) (hb : b.ok) : betR (merN a) (merN b) = rbB a b := by
  have h1 : a.l.s < 18446744073709551616 := ha.1.1
  have h2 : b.l.s < 18446744073709551616 := hb.1.1
  have h3 : a.slot < 18446744073709551616 := ha.2.2.2
  have h4 : b.slot < 18446744073709551616 := hb.2.2.2
  unfold merN rbB
  have ea : owB a = (fnB a && ofB a) := rfl
  have eb : owB b = (fnB b && ofB b) := rfl
  have oa' : (hnB a && decide (a.l.s / 64 = a.slot / 64)) = ownB a := rfl
  have ob' : (hnB b && decide (b.l.s / 64 = b.slot / 64)) = ownB b := rfl
  rw [ea, eb, oa', ob']
  generalize twB a.bits = ta
  generalize twB b.bits = tb
  generalize ownB a = oa
  generalize ownB b = ob
  generalize fnB a = fa
  generalize fnB b = fb
  generalize ofB a = wa
  generalize ofB b = wb
  generalize sgN a.bits = x
  generalize sgN b.bits = y
  generalize a.l.s = sa at *
  generalize b.l.s = sb at *
  generalize a.slot = la at *
  generalize b.slot = lb at *
  unfold mkN
  simp only [betR_cons, ovB_eq, mr_ext]
  have hs : (18446744073709551615 - sb < 18446744073709551615 - sa) = (sa < sb) := by
    apply propext
    omega
  have hl : (18446744073709551615 - lb < 18446744073709551615 - la) = (la < lb) := by
    apply propext
    omega
  have es : (18446744073709551615 - sa = 18446744073709551615 - sb) = (sa = sb) := by
    apply propext
    omega
  have el : (18446744073709551615 - la = 18446744073709551615 - lb) = (la = lb) := by
    apply propext
    omega
  simp only [hs, hl, es, el]
  clear hs hl es el ha hb h1 h2 h3 h4 ea eb oa' ob'
  by_cases hxy : x = y <;> by_cases hs : sa = sb <;> by_cases hl : la = lb <;> cases ta <;> cases tb <;> cases oa <;> cases ob <;> cases fa <;> cases fb <;> cases wa <;> cases wb <;> simp_all [betR, bne]
/-! ### The order of lists of merits -/
theorem ovB_irr (m : Mr) : ovB m m = false := by
  rw [ovB_eq]
  simp
theorem ovB_tri {m n : Mr} (h : m ≠ n) : ovB m n = !ovB n m := by
  obtain ⟨a, b⟩ := m
  obtain ⟨c, d⟩ := n
  simp only [ovB_eq]
  by_cases e : a = c
  · subst e
    have hbd : b ≠ d := fun e => h (by rw [e])
    rw [Bool.eq_iff_iff]
    simp
    omega
  · cases a <;> cases c <;> simp_all
theorem ovB_trans {m n o : Mr} (h1 : ovB m n = true) (h2 : ovB n o = true) : ovB m o = true := by
  obtain ⟨a, b⟩ := m
  obtain ⟨c, d⟩ := n
  obtain ⟨e, f⟩ := o
  simp only [ovB_eq] at *
  cases a <;> cases c <;> cases e <;> simp_all <;> omega
theorem betR_irr : ∀ R : List Mr, betR R R = false
  | [] => rfl
  | m :: R => by rw [betR_cons, if_pos rfl]; exact betR_irr R
theorem betR_asym : ∀ R S : List Mr, betR R S = true → betR S R = false
  | [], _, h => by cases h
  | _ :: _, [], h => by cases h
  | m :: R, n :: S, h => by
    rw [betR_cons] at h ⊢
    by_cases e : m = n
    · rw [if_pos e] at h
      rw [if_pos e.symm]
      exact betR_asym R S h
    · rw [if_neg e] at h
      rw [if_neg (fun x => e x.symm), ovB_tri (fun x => e x.symm), h]
      rfl
theorem betR_trans : ∀ R S T : List Mr, R.length = S.length → S.length = T.length → betR R S = true → betR S T = true → betR R T = true
  | [], _, _, _, _, h, _ => by cases h
  | _ :: _, [], _, h, _, _, _ => by cases h
  | _ :: _, _ :: _, [], _, h, _, _ => by cases h
  | m :: R, n :: S, o :: T, h1, h2, h, g => by
    rw [betR_cons] at h g ⊢
    by_cases e : m = n
    · subst e
      rw [if_pos rfl] at h
      by_cases e2 : m = o
      · rw [if_pos e2] at g ⊢
        exact betR_trans R S T (Nat.succ.inj h1) (Nat.succ.inj h2) h g
      · rw [if_neg e2] at g ⊢
        exact g
    · rw [if_neg e] at h
      by_cases e2 : n = o
      · subst e2
        rw [if_neg e]
        exact h
      · rw [if_neg e2] at g
        have e3 : m ≠ o := fun x => by
          subst x
          rw [ovB_tri e2, h] at g
          cases g
        rw [if_neg e3]
        exact ovB_trans h g
end Go.Proofs.YtoddangedbefgaaGreatDoor
namespace Go.Proofs.YtoddangedbefgaaGreatDoor
open Go.RowKit Go.Shelf Go.Sort

theorem lg_sz {xs : List ByteArray} (h : szS xs) : Lg xs := by unfold Lg; have := h.1; omega
set_option maxRecDepth 20000 in
set_option maxHeartbeats 4000000 in
theorem lightbetter_any (a b : UpD) (ha : a.ok) (hb : b.ok) (za : szU a) (zb : szU b) (qa qb : UpP) (w : World) (hl : Laid w) (hpa : upIn w.heap.size w a qa) (hpb : upIn w.heap.size w b qb) :
    Calls Tryz.prog 5 #[.agg (upV a qa).toArray, .agg (upV b qb).toArray] w fun e w' => e = .returned (.bool true) ∧ Below w.heap.size w w' := by
  have KS := fun (W : World) (hB : Below w.heap.size w W) => shown14_any W (hl.below hB)
  have K1 := better_any a b ha hb qa qb
  have K2 := fun (W : World) (hB : Below w.heap.size w W) (hs : w.heap.size ≤ W.heap.size) => rbetter_any a b ha hb (lg_sz za.2.2.2.1.2.2.2.2.2) (lg_sz zb.2.2.2.1.2.2.2.2.2) qa qb w.heap.size W hs (slS_below hB hpa.2.2.2.1) (slS_below hB hpb.2.2.2.1)
  rw [better_is a b ha hb] at K1
  have HL : Hid ((upV a qa).length = 25 ∧ (upV b qb).length = 25) := show _ from ⟨rfl, rfl⟩
  obtain ⟨r, hr⟩ : ∃ r, rbB a b = r := ⟨_, rfl⟩
  obtain ⟨LA, hLA⟩ : ∃ L, upV a qa = L := ⟨_, rfl⟩
  obtain ⟨LB, hLB⟩ : ∃ L, upV b qb = L := ⟨_, rfl⟩
  rw [hLA] at K1 K2 HL ⊢
  rw [hLB] at K1 K2 HL ⊢
  rw [hr] at K1 K2
  clear hr hLA hLB ha hb za zb hpa hpb hl
  obtain ⟨B1, xA, xB, hs⟩ := box2 w (.cells LA.toArray 36) (.cells LB.toArray 36)
  obtain ⟨z, hz⟩ : ∃ z, w.heap.size = z := ⟨_, rfl⟩
  have HZ : Hid (w.heap.size = z) := hz
  rw [hz] at B1 xA xB hs K2 KS
  go_enter Tryz.func5, Tryz.ntmps5
  go_wp2_with fail
  refine (KS _ B1).mono ?_
  rintro e V ⟨rfl, C1⟩
  have yA : Bq z 36 LA.toArray V := (C1.block z (by omega)).trans xA
  have yB : Bq (z + 1) 36 LB.toArray V := (C1.block (z + 1) (by omega)).trans xB
  have BV := belowStep B1 (by omega) C1
  have hsV : z + 2 ≤ V.heap.size := by have := C1.size; omega
  clear xA xB hs B1 C1 KS hz
  go_wp2_with fail
  have Qa := rangeQ (range_all yA) (by omega)
  have Qb := rangeQ (range_all yB) (by omega)
  have ca := inClass (w := V) K1
  have cb := inClassB BV (by omega) K2
  refine wp_region_quiet_below (by kernel_rfl) (by kernel_rfl) ?_
  refine Stp.out ?_
  iterate 2 (refine qs_step (fun K hK => ?_); go_simp; refine hK _ ?_; clear hK K)
  refine quiet_load_S (by kernel_rfl) 36 _ rfl _ _ rfl _ _ Qa Tryz.underlying36 rfl (by rw [HL.out.1]; kernel_rfl) ?_
  refine quiet_load_S (by kernel_rfl) 36 _ rfl _ _ rfl _ _ Qb Tryz.underlying36 rfl (by rw [HL.out.2]; kernel_rfl) ?_
  refine qs_step (fun K hK => ?_)
  go_simp
  apply Exists.intro
  refine ⟨fun _ => ?_, hK _ ?_⟩
  exact ca _ _
  clear hK K
  refine quiet_load_S (by kernel_rfl) 36 _ rfl _ _ rfl _ _ Qa Tryz.underlying36 rfl (by rw [HL.out.1]; kernel_rfl) ?_
  refine quiet_load_S (by kernel_rfl) 36 _ rfl _ _ rfl _ _ Qb Tryz.underlying36 rfl (by rw [HL.out.2]; kernel_rfl) ?_
  refine qs_step (fun K hK => ?_)
  go_simp
  apply Exists.intro
  refine ⟨fun _ => ?_, hK _ ?_⟩
  exact cb _ _
  clear hK K
  iterate 3 (refine qs_step (fun K hK => ?_); go_simp; refine hK _ ?_; clear hK K)
  refine ⟨wpQuiet_nil ?_⟩
  intro V2 hV2
  have cBV2 : Below V.heap.size V V2 := by
    obtain ⟨p, rfl⟩ := hV2
    exact below_regrown _ _ _
  have BV2 : Below z w V2 := by
    obtain ⟨p, rfl⟩ := hV2
    exact belowStep BV (by have := BV.size; omega) (below_regrown V p.d p.os)
  clear hV2
  have HB : Hid _ := BV2
  clear Qa Qb ca cb yA yB BV BV2 cBV2 hsV K1 K2
  go_wp2
  go_ret
  rw [HZ.out]
  exact ⟨by simp, HB.out⟩
end Go.Proofs.YtoddangedbefgaaGreatDoor
