/- Lemmas: What the reference's On, Many, Times, InGroup, Add, Neg do. No condition. What the reference's Times, InGroup, Add, Neg do. No condition. What the law's shown does; the walks of CurveAdds, CurveTimes, CurveLaws, CurveFew. No condition. What the package pair's over, slope, negative, sum do; its variables. No condition. What the package pair's line does. No condition. What the package pair's Line does. No condition. What the package pair's behind does. No condition. -/
import Derived.Test.YtoddangedbefgabGreatDoorM9
import Derived.Test.YtoddangedbefgabGreatDoorM10
set_option maxRecDepth 100000
set_option maxHeartbeats 4000000
namespace Go.Proofs.YtoddangedbefgabGreatDoor
open Go.RowKit Go.Shelf Go.Sort
theorem ron_any (p : Pt) (hp : UT p) (w : World) :
  Calls Tryz.prog 98 #[vT p] w fun e w' => e = .returned (.bool (onN p)) ∧ Below w.heap.size w w' := by
 have eM := r_on p
 rw [← eM]
 by_cases hi : p.I = true
 ·rw [if_pos hi]
  obtain ⟨pX, pY, pI⟩ := p
  simp only at hi
  subst hi
  simp only [vT]
  clear eM
  by_cases h1 : pX = 0
  ·subst h1
   have eb : ((pY : Int) == 0) = decide (pY = 0) := by
    by_cases e : pY = 0
    ·subst e; simp
    ·rw [decide_eq_false e, beq_eq_false_iff_ne]; omega
   go_enter Tryz.func98, Tryz.ntmps98
   go_wp2_with fail
   go_ret
   exact ⟨by simp, by go_grown⟩
  ·have h1' : ((pX : Int) == 0) = false := by rw [beq_eq_false_iff_ne]; omega
   have h1'' : ¬ (pX : Int) = 0 := by omega
   rw [decide_eq_false h1]
   go_enter Tryz.func98, Tryz.ntmps98
   go_wp2_with fail
   go_ret
   exact ⟨by simp, by go_grown⟩
 rw [if_neg hi]
 have hi : p.I = false := by simpa using hi
 have C1 := jbg p.Y p.Y hp.2 hp.2
 have C2 := side_any p.X hp.1
 rw [show adN (muN p.X (muN p.X p.X)) p.X = sqN p.X by unfold sqN; rw [mu_comm p.X (muN p.X p.X)]]
 obtain ⟨a, ha⟩ : ∃ a, muN p.Y p.Y = a := ⟨_, rfl⟩
 obtain ⟨b, hb⟩ : ∃ b, sqN p.X = b := ⟨_, rfl⟩
 rw [ha] at C1 ⊢
 rw [hb] at C2 ⊢
 clear ha hb eM
 obtain ⟨pX, pY, pI⟩ := p
 simp only at hi
 subst hi
 simp only [vT] at C1 C2 ⊢
 unfold PM
 have eb : ((a : Int) == (b : Int)) = decide (a = b) := by
  by_cases e : a = b
  ·subst e; simp
  ·rw [decide_eq_false e, beq_eq_false_iff_ne]; omega
 by_cases h1 : pX < 2147482867
 ·have h1' : decide ((pX : Int) < 2147482867) = true := decide_eq_true (by omega)
  by_cases h2 : pY < 2147482867
  ·have h2' : decide ((pY : Int) < 2147482867) = true := decide_eq_true (by omega)
   rw [decide_eq_true h1, decide_eq_true h2]
   go_enter Tryz.func98, Tryz.ntmps98
   go_wp2_with fail
   refine wpOf (fun V => Below w.heap.size w V ∧ Tb w.heap.size ⟨pX, pY, false⟩ V) ⟨by go_grown, Tb.new' w ⟨pX, pY, false⟩ 72 _ rfl⟩ ?_
   rintro V ⟨BV, hA⟩
   have c1 := jae (w := V) C1
   have c2 := jae (w := V) C2
   have k0 := cell_regrown hA.a
   have k1 := cell_regrown hA.b
   have HV : Hid (_ ∧ _) := ⟨BV, BV⟩
   clear hA C1 C2 BV
   refine wp_region_quiet_below (by kernel_rfl) (by kernel_rfl) ?_
   iterate 13 (quiet_step (fail))
   quiet_step (exact c1 _ _)
   iterate 2 (quiet_step (fail))
   quiet_step (exact c2 _ _)
   iterate 3 (quiet_step (fail))
   refine wpQuiet_nil ?_
   intro w8 hw8
   have B8 : Below V.heap.size V w8 := by
    obtain ⟨p, rfl⟩ := hw8
    exact below_regrown _ _ _
   have BW := jaa HV.out.1 HV.out.1.size B8
   clear hw8 k0 k1 c1 c2
   go_wp2_with fail
   go_ret
   exact ⟨by simp, BW⟩
  ·have h2' : decide ((pY : Int) < 2147482867) = false := decide_eq_false (by omega)
   rw [decide_eq_false h2]
   go_enter Tryz.func98, Tryz.ntmps98
   go_wp2_with fail
   refine wpOf (fun V => Below w.heap.size w V ∧ Tb w.heap.size ⟨pX, pY, false⟩ V) ⟨by go_grown, Tb.new' w ⟨pX, pY, false⟩ 72 _ rfl⟩ ?_
   rintro V ⟨BV, hA⟩
   have c1 := jae (w := V) C1
   have c2 := jae (w := V) C2
   have k0 := cell_regrown hA.a
   have k1 := cell_regrown hA.b
   have HV : Hid (_ ∧ _) := ⟨BV, BV⟩
   clear hA C1 C2 BV
   refine wp_region_quiet_below (by kernel_rfl) (by kernel_rfl) ?_
   repeat (go_big_quiet_step (fail))
   refine wpQuiet_nil ?_
   intro w8 hw8
   have B8 : Below V.heap.size V w8 := by
    obtain ⟨p, rfl⟩ := hw8
    exact below_regrown _ _ _
   have BW := jaa HV.out.1 HV.out.1.size B8
   clear hw8 k0 k1 c1 c2
   go_wp2_with fail
   go_ret
   exact ⟨by simp, BW⟩
 ·have h1' : decide ((pX : Int) < 2147482867) = false := decide_eq_false (by omega)
  rw [decide_eq_false h1]
  go_enter Tryz.func98, Tryz.ntmps98
  go_wp2_with fail
  refine wpOf (fun V => Below w.heap.size w V ∧ Tb w.heap.size ⟨pX, pY, false⟩ V) ⟨by go_grown, Tb.new' w ⟨pX, pY, false⟩ 72 _ rfl⟩ ?_
  rintro V ⟨BV, hA⟩
  have c1 := jae (w := V) C1
  have c2 := jae (w := V) C2
  have k0 := cell_regrown hA.a
  have k1 := cell_regrown hA.b
  have HV : Hid (_ ∧ _) := ⟨BV, BV⟩
  clear hA C1 C2 BV
  refine wp_region_quiet_below (by kernel_rfl) (by kernel_rfl) ?_
  repeat (go_big_quiet_step (fail))
  refine wpQuiet_nil ?_
  intro w8 hw8
  have B8 : Below V.heap.size V w8 := by
   obtain ⟨p, rfl⟩ := hw8
   exact below_regrown _ _ _
  have BW := jaa HV.out.1 HV.out.1.size B8
  clear hw8 k0 k1 c1 c2
  go_wp2_with fail
  go_ret
  exact ⟨by simp, BW⟩
theorem many_any (n : Nat) (hn : U64 n) (p : Pt) (hp : Wl p) (w : World) :
  Calls Tryz.prog 99 #[.int .u64 n, vT p] w fun e w' => e = .returned (vT (tmN p n)) ∧ Below w.heap.size w w' := by
 go_enter Tryz.func99, Tryz.ntmps99
 go_wp2_with fail
 refine jay (fun V => Below w.heap.size w V ∧ Tb w.heap.size p V ∧ Tb (w.heap.size + 1) oP V) ⟨by go_grown, (Tb.new' w p 72 _ rfl).alloc _, Tb.new' _ oP 72 _ (by simp)⟩ ?_
 rintro V ⟨BV, hA, hO⟩
 refine (none_any _).mono ?_
 rintro e w1 ⟨rfl, B1⟩
 have A1 := hA.below B1
 have O1 := hO.below B1
 have BW := jaa BV BV.size B1
 clear hA hO BV B1 V
 go_wp2_with fail
 have hzm := O1.z
 have N1 := Tb.new' w1 iN 72 _ rfl
 have A2 := A1.alloc (.cells #[.int .u64 (iN.X : Int), .int .u64 (iN.Y : Int), .bool iN.I] 72)
 have O2 := O1.alloc (.cells #[.int .u64 (iN.X : Int), .int .u64 (iN.Y : Int), .bool iN.I] 72)
 have BW2 := BW.alloc BW.size (.cells #[.int .u64 (iN.X : Int), .int .u64 (iN.Y : Int), .bool iN.I] 72)
 clear A1 O1 BW
 obtain ⟨m, hm⟩ : ∃ m, w1.heap.size = m := ⟨_, rfl⟩
 rw [hm] at N1 hzm ⊢
 refine wpOf (fun W => Below w.heap.size w W ∧ Tb w.heap.size p W ∧ Tb (w.heap.size + 1) oP W ∧ Tb m iN W) ⟨BW2, A2, O2, N1⟩ ?_
 rintro W0 ⟨BW0, A0, O0, N0⟩
 clear BW2 A2 O2 N1 hm w1
 obtain ⟨z, hz⟩ : ∃ c, w.heap.size = c := ⟨_, rfl⟩
 rw [hz] at BW0 A0 O0 hzm ⊢
 have HZ : Hid (w.heap.size = z) := hz
 clear hz
 go_loopg [6] 64 (fun gk i wr => i = .int .i64 ((gk : Int) - 1) ∧ gk ≤ 64 ∧ Below z w wr ∧ Tb z p wr ∧ Tb (z + 1) oP wr ∧ Tb m (tmN p (n / 2 ^ gk)) wr)
 case atStart =>
  refine ⟨rfl, by omega, BW0, A0, O0, ?_⟩
  have : n / 2 ^ 64 = 0 := Nat.div_eq_of_lt hn
  rw [this, tm_0]
  exact N0
 case round =>
  clear BW0 A0 O0 N0
  obtain ⟨rfl, hg, BW, hA, hO, hN⟩ := hrel
  cases gk with
  | zero =>
   have e0 : tmN p (n / 2 ^ 0) = tmN p n := by rw [Nat.pow_zero, Nat.div_one]
   rw [e0] at hN
   obtain ⟨v, hv⟩ : ∃ v, tmN p n = v := ⟨_, rfl⟩
   have HVV : Hid (tmN p n = v) := hv
   rw [hv] at hN
   clear hv e0 hA
   have ⟨nz, na, nb, nc, nf⟩ := hN
   have ⟨oz, oa, ob, oc, of⟩ := hO
   go_wp2_with fail
   refine bodyPost_ret (v := vT v) (by simp [results, Tryz.results99, go_sem, *]) rfl ⟨by rw [HVV.out], ?_⟩
   rw [HZ.out]
   exact jah (y := v) BW (by omega)
  | succ q =>
   have wx := wl_tm p hp (n / 2 ^ (q + 1))
   obtain ⟨x, hx⟩ : ∃ x, tmN p (n / 2 ^ (q + 1)) = x := ⟨_, rfl⟩
   obtain ⟨y, hy⟩ : ∃ y, n / 2 ^ q = y := ⟨_, rfl⟩
   have hyU : U64 y := by rw [← hy]; exact Nat.lt_of_le_of_lt (Nat.div_le_self _ _) hn
   have st := tm_step p n q
   rw [hx, hy] at st
   rw [hx] at hN wx
   have ws := wl_sm wx wx
   have C1 := jgc x x wx wx
   obtain ⟨s, hs⟩ : ∃ s, smN x x = s := ⟨_, rfl⟩
   rw [hs] at st ws C1
   have hd : (n : Int) / 2 ^ q = y := by rw [← hy]; simp [Int.natCast_ediv, Int.natCast_pow]
   have ha1 := jhb y hyU
   have HH : Hid (_ ∧ _) := ⟨hy, st⟩
   clear hx hy st hs
   have ⟨nz, na, nb, nc, nf⟩ := hN
   go_wp2_with fail
   refine (C1 _).mono ?_
   rintro e w2 ⟨rfl, B2⟩
   have A2 := (hA.below B2).other (g := m) s (by omega)
   have O2 := (hO.below B2).other (g := m) s (by omega)
   have N2 := (hN.below B2)
   have S2 := N2.over s
   have BW2 := jah (jaa BW (by have := hA.z; omega) B2) (g := m) (by omega) s
   have HS : Hid (_ ∧ _ ∧ _ ∧ _) := ⟨BW2, A2, O2, S2⟩
   obtain ⟨xz, xa, xb, xc, xf⟩ := N2
   obtain ⟨pz, pa, pb, pc, pf⟩ := hA.below B2
   have hne : z ≠ m := by omega
   have hne' : m ≠ z := by omega
   clear A2 O2 S2 BW2 nz na nb nc nf hA hO hN BW B2
   by_cases hb : y % 2 = 1
   ·rw [hb] at ha1
    go_wp2_with fail
    refine (jgc s p ws hp _).mono ?_
    rintro e w4 ⟨rfl, B4⟩
    obtain ⟨BW2, A2, O2, S2⟩ := HS.out
    have hz2 := A2.z
    obtain ⟨u, hu⟩ : ∃ u, smN s p = u := ⟨_, rfl⟩
    rw [hu]
    have A4 := (A2.below B4).other (g := m) u (by omega)
    have O4 := (O2.below B4).other (g := m) u (by omega)
    have N4 := (S2.below B4)
    have S4 := N4.over u
    have BW4 := jah (jaa BW2 (by omega) B4) (g := m) (by omega) u
    have HS4 : Hid (_ ∧ _ ∧ _ ∧ _) := ⟨BW4, A4, O4, S4⟩
    obtain ⟨yz, ya, yb, yc, yf⟩ := N4
    clear A2 O2 S2 BW2 HS A4 O4 S4 BW4 B4 xz xa xb xc xf pz pa pb pc pf
    go_wp2_with fail
    obtain ⟨BW4, A4, O4, S4⟩ := HS4.out
    go_roundg q
    case measure => omega
    case rel =>
     refine ⟨by congr 1, by omega, BW4, A4, O4, ?_⟩
     rw [HH.out.1, HH.out.2, if_pos hb, hu]
     exact S4
   ·rw [show y % 2 = 0 by omega] at ha1
    go_wp2_with fail
    obtain ⟨BW2, A2, O2, S2⟩ := HS.out
    go_roundg q
    case measure => omega
    case rel =>
     refine ⟨by congr 1, by omega, BW2, A2, O2, ?_⟩
     rw [HH.out.1, HH.out.2, if_neg hb]
     exact S2
theorem fieldI (p : Pt) (W : World) : (Instr.field 72 (vT p) 2).run Tryz.prog W = .ok (.bool p.I) W := by
 simp only [vT]
 simp [Instr.field, asAgg, go_sem]
theorem jhc (p : Pt) (hp : UT p) (w : World) :
  Calls Tryz.prog 67 #[vT p] w fun e w' => e = .returned (.bool (grN p)) ∧ Below w.heap.size w w' := by
 have uo : U64 536870717 := by unfold U64; omega
 have eG : grN p = (onN p && decide (tmN p 536870717 = iN)) := rfl
 rw [eG]
 have CO := ron_any p hp
 cases ho : onN p
 ·rw [ho] at CO
  go_enter Tryz.func67, Tryz.ntmps67
  go_wp2_with fail
  refine jay (fun V => Below w.heap.size w V ∧ Tb w.heap.size p V) ⟨by go_grown, Tb.new' w p 72 _ rfl⟩ ?_
  rintro V ⟨BV, hA⟩
  refine (CO _).mono ?_
  rintro e w2 ⟨rfl, B2⟩
  have BW := jaa BV BV.size B2
  clear hA B2 BV
  go_wp2_with fail
  go_ret
  exact ⟨by simp, BW⟩
 ·rw [ho] at CO
  have wm := wl_tm p (jbs ho) 536870717
  have CM := many_any 536870717 uo p (jbs ho)
  have eI : decide (tmN p 536870717 = iN) = (tmN p 536870717).I := by
   by_cases e : tmN p 536870717 = iN
   ·rw [decide_eq_true e, e]; rfl
   ·rw [decide_eq_false e, wl_i wm e]
  rw [eI]
  obtain ⟨m, hm⟩ : ∃ m, tmN p 536870717 = m := ⟨_, rfl⟩
  rw [hm] at CM ⊢
  clear hm eI wm
  go_enter Tryz.func67, Tryz.ntmps67
  go_wp2_with fail
  refine jay (fun V => Below w.heap.size w V ∧ Tb w.heap.size p V) ⟨by go_grown, Tb.new' w p 72 _ rfl⟩ ?_
  rintro V ⟨BV, hA⟩
  refine (CO _).mono ?_
  rintro e w2 ⟨rfl, B2⟩
  have A2 := hA.below B2
  have BW := jaa BV BV.size B2
  clear hA B2 BV
  have ⟨az, aa, ab, ac, af⟩ := A2
  go_wp2_with fail
  refine (CM _).mono ?_
  rintro e w3 ⟨rfl, B3⟩
  have BW3 := jaa BW BW.size B3
  clear az aa ab ac af A2 BW B3
  have hF := fieldI m
  go_wp2_with fail
  go_ret
  exact ⟨by simp, BW3⟩
theorem inClassL {f : Nat} {args : Array Value} {v : Value} {w : World} (h : ∀ W, Li W → Calls Tryz.prog f args W fun e w' => e = .returned v ∧ Below W.heap.size W w') (hL : Li w) :
  ∀ d os, Calls Tryz.prog f args (grow (redrawn w d) os) fun e w'' => e = .returned v ∧ ∃ p : Regrown, w'' = grow (redrawn w p.d) p.os := fun _ _ => Calls.regrown_of (h _ (hL.below (below_regrown _ _ _)))
theorem neqT (p q : Pt) (W : World) : (binOp .neq 72 (vT p) (vT q)).run Tryz.prog W = .ok (.bool (!decide (p = q))) W := by
 obtain ⟨pX, pY, pI⟩ := p
 obtain ⟨qX, qY, qI⟩ := q
 by_cases h1 : pX = qX
 ·by_cases h2 : pY = qY
  ·by_cases h3 : pI = qI
   ·subst h1 h2 h3; simp [go_sem]
   ·subst h1 h2; simp [go_sem, h3]
  ·subst h1
   have h2' : ¬ (pY : Int) = qY := by omega
   simp [go_sem, h2, h2']
 ·have h1' : ¬ (pX : Int) = qX := by omega
  simp [go_sem, h1, h1']
theorem Li.alloc {w : World} (h : Li w) (o : Obj) : Li (w.alloc o) := h.below ((Below.refl _ _).alloc (Nat.le_refl _) _)
structure Lp (w : World) : Prop where
 l : Li w
 za : 5 < w.heap.size
 a0 : w.cell? ⟨5, 0, none⟩ = some (.int .u64 0)
 a1 : w.cell? ⟨5, 1, none⟩ = some (.int .u64 0)
 a2 : w.cell? ⟨5, 2, none⟩ = some (.bool true)
 oa : ∃ cs t, w.heap[5]? = some (.cells cs t (0, 0))
 zb : 6 < w.heap.size
 b0 : w.cell? ⟨6, 0, none⟩ = some (.int .u64 1)
 b1 : w.cell? ⟨6, 1, none⟩ = some (.int .u64 0)
 ob : ∃ cs t, w.heap[6]? = some (.cells cs t (0, 0))
theorem Lp.ne {w : World} (h : Lp w) : 0 < w.heap.size ∧ 0 ≤ w.heap.size ∧ w.heap.size ≠ 0 ∧ 0 ≠ w.heap.size ∧ 1 < w.heap.size ∧ 1 ≤ w.heap.size ∧ w.heap.size ≠ 1 ∧ 1 ≠ w.heap.size ∧ 2 < w.heap.size ∧ 2 ≤ w.heap.size ∧ w.heap.size ≠ 2 ∧ 2 ≠ w.heap.size ∧ 3 < w.heap.size ∧ 3 ≤ w.heap.size ∧ w.heap.size ≠ 3 ∧ 3 ≠ w.heap.size ∧ 3 < w.heap.size + 1 ∧ 3 < w.heap.size + 1 + 1 ∧ 3 < w.heap.size + 1 + 1 + 1 ∧ 3 < w.heap.size + 1 + 1 + 1 + 1 ∧ 3 < w.heap.size + 1 + 1 + 1 + 1 + 1 ∧ 4 < w.heap.size ∧ 4 ≤ w.heap.size ∧ w.heap.size ≠ 4 ∧ 4 ≠ w.heap.size ∧ 4 < w.heap.size + 1 ∧ 4 < w.heap.size + 1 + 1 ∧ 4 < w.heap.size + 1 + 1 + 1 ∧ 4 < w.heap.size + 1 + 1 + 1 + 1 ∧ 4 < w.heap.size + 1 + 1 + 1 + 1 + 1 ∧ 5 < w.heap.size ∧ 5 ≤ w.heap.size ∧ w.heap.size ≠ 5 ∧ 5 ≠ w.heap.size ∧ 5 < w.heap.size + 1 ∧ 5 < w.heap.size + 1 + 1 ∧ 5 < w.heap.size + 1 + 1 + 1 ∧ 5 < w.heap.size + 1 + 1 + 1 + 1 ∧ 5 < w.heap.size + 1 + 1 + 1 + 1 + 1 ∧ 6 < w.heap.size ∧ 6 ≤ w.heap.size ∧ w.heap.size ≠ 6 ∧ 6 ≠ w.heap.size ∧ 6 < w.heap.size + 1 ∧ 6 < w.heap.size + 1 + 1 ∧ 6 < w.heap.size + 1 + 1 + 1 ∧ 6 < w.heap.size + 1 + 1 + 1 + 1 ∧ 6 < w.heap.size + 1 + 1 + 1 + 1 + 1 := by
 have h1 := h.l.z
 have h2 := h.za
 have h3 := h.zb
 omega
theorem Lp.same {w W : World} (h : Lp w) (e : W.heap[4]? = w.heap[4]?) (e1 : W.heap[5]? = w.heap[5]?) (e2 : W.heap[6]? = w.heap[6]?) : Lp W := by
 obtain ⟨l, za, a0, a1, a2, ⟨cs, t, o⟩, zb, b0, b1, ⟨cs', t', o'⟩⟩ := h
 have k1 := e1.trans o
 have k2 := e2.trans o'
 exact ⟨l.same e, (Array.getElem?_eq_some_iff.1 k1).1, (Lib.cell_of_heap k1 0).trans ((Lib.cell_of_heap o 0).symm.trans a0), (Lib.cell_of_heap k1 1).trans ((Lib.cell_of_heap o 1).symm.trans a1), (Lib.cell_of_heap k1 2).trans ((Lib.cell_of_heap o 2).symm.trans a2), ⟨cs, t, k1⟩,
  (Array.getElem?_eq_some_iff.1 k2).1, (Lib.cell_of_heap k2 0).trans ((Lib.cell_of_heap o' 0).symm.trans b0), (Lib.cell_of_heap k2 1).trans ((Lib.cell_of_heap o' 1).symm.trans b1), ⟨cs', t', k2⟩⟩
theorem Lp.below {w W : World} (h : Lp w) (hb : Below w.heap.size w W) : Lp W := h.same (hb.block 4 h.l.z) (hb.block 5 h.za) (hb.block 6 h.zb)
theorem Lp.alloc {w : World} (h : Lp w) (o : Obj) : Lp (w.alloc o) := h.below ((Below.refl _ _).alloc (Nat.le_refl _) _)
theorem Lp.own {A C : World} {row : Option Nat} (h : Lp A) (hg : A.grownBy C row) (hr : ∀ r, row = some r → ∃ o : Obj, A.heap[r]? = some o ∧ o.isCells = false) : Lp C := by
 refine h.same (hg.block 4 h.l.z (fun e => ?_)) (hg.block 5 h.za (fun e => ?_)) (hg.block 6 h.zb (fun e => ?_))
 ·obtain ⟨o, ho, hc⟩ := hr 4 e.symm
  obtain ⟨cs, t, k⟩ := h.l.o
  rw [k] at ho
  cases ho
  cases hc
 ·obtain ⟨o, ho, hc⟩ := hr 5 e.symm
  obtain ⟨cs, t, k⟩ := h.oa
  rw [k] at ho
  cases ho
  cases hc
 ·obtain ⟨o, ho, hc⟩ := hr 6 e.symm
  obtain ⟨cs, t, k⟩ := h.ob
  rw [k] at ho
  cases ho
  cases hc
theorem Lp.other {W : World} (h : Lp W) {k : Nat} (hk : 4 < k) (hk1 : 5 < k) (hk2 : 6 < k) (o : Nat) (u : Value) : Lp (W.setCell ⟨k, o, none⟩ u) := h.same (Below.heap_setCell _ _ _ _ (Nat.ne_of_lt hk)) (Below.heap_setCell _ _ _ _ (Nat.ne_of_lt hk1)) (Below.heap_setCell _ _ _ _ (Nat.ne_of_lt hk2))
theorem inClassP {f : Nat} {args : Array Value} {v : Value} {w : World} (h : ∀ W, Lp W → Calls Tryz.prog f args W fun e w' => e = .returned v ∧ Below W.heap.size W w') (hL : Lp w) :
  ∀ d os, Calls Tryz.prog f args (grow (redrawn w d) os) fun e w'' => e = .returned v ∧ ∃ p : Regrown, w'' = grow (redrawn w p.d) p.os := fun _ _ => Calls.regrown_of (h _ (hL.below (below_regrown _ _ _)))
theorem pover_any (a b : Nat) (ha : U64 a) (hb : U64 b) (w : World) :
  Calls Tryz.prog 202 #[.int .u64 a, .int .u64 b] w fun e w' => e = .returned (.int .u64 (ovN a b : Nat)) ∧ Below w.heap.size w w' := by
 have hi := pm_u _ (iv_lt b)
 have C1 := inv_any b hb
 unfold ovN
 obtain ⟨i, he⟩ : ∃ i, ivN b = i := ⟨_, rfl⟩
 rw [he] at hi C1 ⊢
 clear he
 go_enter Tryz.func202, Tryz.ntmps202
 go_wp2_with fail
 refine (C1 _).mono ?_
 rintro e w1 ⟨rfl, B1⟩
 go_wp2_with fail
 refine (jbn a i ha hi _).mono ?_
 rintro e w2 ⟨rfl, B2⟩
 go_wp2_with fail
 go_ret
 exact ⟨rfl, jaa B1 B1.size B2⟩
theorem pslope_any (p q : Pt) (hp : UT p) (hq : UT q) (w : World) :
  Calls Tryz.prog 199 #[vT p, vT q] w fun e w' => e = .returned (.int .u64 (slN p q : Nat)) ∧ Below w.heap.size w w' := by
 have three : U64 3 := by unfold U64; omega
 have one : U64 1 := by unfold U64; omega
 by_cases hE : p = q
 ·have hEq := eqlT p q
  rw [decide_eq_true hE] at hEq
  have eM : slN p q = ovN (adN (muN 3 (muN p.X p.X)) 1) (adN p.Y p.Y) := by unfold slN; rw [if_pos hE]
  rw [eM]
  have C1 := jbn p.X p.X hp.1 hp.1
  have C2 := jbn 3 (muN p.X p.X) three (pm_u _ (jbq _ _))
  have C3 := jev (muN 3 (muN p.X p.X)) 1 (pm_u _ (jbq _ _)) one
  have C4 := jev p.Y p.Y hp.2 hp.2
  have C5 := pover_any (adN (muN 3 (muN p.X p.X)) 1) (adN p.Y p.Y) (pm_u _ (ad_lt _ _)) (pm_u _ (ad_lt _ _))
  obtain ⟨r, hr⟩ : ∃ r, ovN (adN (muN 3 (muN p.X p.X)) 1) (adN p.Y p.Y) = r := ⟨_, rfl⟩
  rw [hr] at C5 ⊢
  obtain ⟨a1, h1⟩ : ∃ r, muN p.X p.X = r := ⟨_, rfl⟩
  rw [h1] at C1 C2 C3 C5
  obtain ⟨a2, h2⟩ : ∃ r, muN 3 a1 = r := ⟨_, rfl⟩
  rw [h2] at C2 C3 C5
  obtain ⟨a3, h3⟩ : ∃ r, adN a2 1 = r := ⟨_, rfl⟩
  rw [h3] at C3 C5
  obtain ⟨a4, h4⟩ : ∃ r, adN p.Y p.Y = r := ⟨_, rfl⟩
  rw [h4] at C4 C5
  clear h1 h2 h3 h4 hr eM hE
  obtain ⟨pX, pY, pI⟩ := p
  obtain ⟨qX, qY, qI⟩ := q
  simp only [vT] at hEq C1 C4 ⊢
  go_enter Tryz.func199, Tryz.ntmps199
  go_wp2_with fail
  refine wpOf (fun V => Below w.heap.size w V ∧ Tb w.heap.size ⟨pX, pY, pI⟩ V ∧ Tb (w.heap.size + 1) ⟨qX, qY, qI⟩ V) ⟨by go_grown, (Tb.new' w ⟨pX, pY, pI⟩ 72 _ rfl).alloc _, Tb.new' _ ⟨qX, qY, qI⟩ 72 _ (by simp)⟩ ?_
  rintro V ⟨BV, hA, hB⟩
  have c1 := jae (w := V) C1
  have c2 := jae (w := V) C2
  have c3 := jae (w := V) C3
  have c4 := jae (w := V) C4
  have c5 := jae (w := V) C5
  have k0 := cell_regrown hA.a
  have k1 := cell_regrown hA.b
  have HV : Hid (_ ∧ _) := ⟨BV, BV⟩
  clear hA hB C1 C2 C3 C4 C5 BV hEq
  refine wp_region_quiet_below (by kernel_rfl) (by kernel_rfl) ?_
  iterate 4 (quiet_step (fail))
  quiet_step (exact c1 _ _)
  quiet_step (exact c2 _ _)
  quiet_step (exact c3 _ _)
  iterate 4 (quiet_step (fail))
  quiet_step (exact c4 _ _)
  quiet_step (exact c5 _ _)
  iterate 1 (quiet_step (fail))
  refine wpQuiet_nil ?_
  intro w8 hw8
  have B8 : Below V.heap.size V w8 := by
   obtain ⟨p, rfl⟩ := hw8
   exact below_regrown _ _ _
  have BW := jaa HV.out.1 HV.out.1.size B8
  clear hw8 k0 k1 c1 c2 c3 c4 c5
  go_wp2_with fail
  go_ret
  exact ⟨rfl, BW⟩
 ·have hEq := eqlT p q
  rw [decide_eq_false hE] at hEq
  have eM : slN p q = ovN (sbN q.Y p.Y) (sbN q.X p.X) := by unfold slN; rw [if_neg hE]
  rw [eM]
  have C1 := jdd q.Y p.Y hq.2 hp.2
  have C2 := jdd q.X p.X hq.1 hp.1
  have C3 := pover_any (sbN q.Y p.Y) (sbN q.X p.X) (pm_u _ (jde _ _)) (pm_u _ (jde _ _))
  obtain ⟨r, hr⟩ : ∃ r, ovN (sbN q.Y p.Y) (sbN q.X p.X) = r := ⟨_, rfl⟩
  rw [hr] at C3 ⊢
  obtain ⟨a1, h1⟩ : ∃ r, sbN q.Y p.Y = r := ⟨_, rfl⟩
  rw [h1] at C1 C3
  obtain ⟨a2, h2⟩ : ∃ r, sbN q.X p.X = r := ⟨_, rfl⟩
  rw [h2] at C2 C3
  clear h1 h2 hr eM hE
  obtain ⟨pX, pY, pI⟩ := p
  obtain ⟨qX, qY, qI⟩ := q
  simp only [vT] at hEq C1 C2 ⊢
  go_enter Tryz.func199, Tryz.ntmps199
  go_wp2_with fail
  refine wpOf (fun V => Below w.heap.size w V ∧ Tb w.heap.size ⟨pX, pY, pI⟩ V ∧ Tb (w.heap.size + 1) ⟨qX, qY, qI⟩ V) ⟨by go_grown, (Tb.new' w ⟨pX, pY, pI⟩ 72 _ rfl).alloc _, Tb.new' _ ⟨qX, qY, qI⟩ 72 _ (by simp)⟩ ?_
  rintro V ⟨BV, hA, hB⟩
  have c1 := jae (w := V) C1
  have c2 := jae (w := V) C2
  have c3 := jae (w := V) C3
  have k0 := cell_regrown hA.a
  have k1 := cell_regrown hA.b
  have k2 := cell_regrown hB.a
  have k3 := cell_regrown hB.b
  have HV : Hid (_ ∧ _) := ⟨BV, BV⟩
  clear hA hB C1 C2 C3 BV hEq
  refine wp_region_quiet_below (by kernel_rfl) (by kernel_rfl) ?_
  iterate 4 (quiet_step (fail))
  quiet_step (exact c1 _ _)
  iterate 4 (quiet_step (fail))
  quiet_step (exact c2 _ _)
  quiet_step (exact c3 _ _)
  iterate 1 (quiet_step (fail))
  refine wpQuiet_nil ?_
  intro w8 hw8
  have B8 : Below V.heap.size V w8 := by
   obtain ⟨p, rfl⟩ := hw8
   exact below_regrown _ _ _
  have BW := jaa HV.out.1 HV.out.1.size B8
  clear hw8 k0 k1 k2 k3 c1 c2 c3
  go_wp2_with fail
  go_ret
  exact ⟨rfl, BW⟩
theorem pneg_any (p : Pt) (hp : onN p = true) (w : World) (hL : Lp w) :
  Calls Tryz.prog 198 #[vT p] w fun e w' => e = .returned (vT (ngN p)) ∧ Below w.heap.size w w' := by
 have C1 := neg_any p (wl_u (jbs hp))
 unfold negV at C1
 rw [if_pos hp] at C1
 obtain ⟨g, hg⟩ : ∃ g, ngN p = g := ⟨_, rfl⟩
 rw [hg] at C1 ⊢
 clear hg hp
 go_enter Tryz.func198, Tryz.ntmps198
 go_wp2_with fail
 refine jay (fun V => Below w.heap.size w V ∧ Tb (w.heap.size + 1) oP V ∧ Lp V) ⟨by go_grown, Tb.new' _ oP 72 _ (by simp), (hL.alloc _).alloc _⟩ ?_
 rintro V ⟨BV, hO, LV⟩
 refine (C1 _ LV.l).mono ?_
 rintro e w2 ⟨rfl, B2⟩
 have O2 := hO.below B2
 have BW := jaa BV BV.size B2
 obtain ⟨z, a, b, c, f⟩ := O2
 clear hO B2 BV LV C1 V
 go_wp2_with fail
 refine bodyPost_ret (v := vT g) (by simp [results, Tryz.results198, go_sem, *]) rfl ⟨rfl, ?_⟩
 exact (jah (y := g) BW (by omega)).alloc (by simp [World.setCell]; have := BW.size; omega) _
theorem psum_any (p q : Pt) (hp : onN p = true) (hq : onN q = true) (w : World) (hL : Lp w) :
  Calls Tryz.prog 192 #[vT p, vT q] w fun e w' => e = .returned (vT (smN p q)) ∧ Below w.heap.size w w' := by
 have C1 := add_all p q (wl_u (jbs hp)) (wl_u (jbs hq))
 unfold addV at C1
 rw [hp, hq, Bool.and_self, if_pos rfl] at C1
 obtain ⟨g, hg⟩ : ∃ g, smN p q = g := ⟨_, rfl⟩
 rw [hg] at C1 ⊢
 clear hg hp hq
 go_enter Tryz.func192, Tryz.ntmps192
 go_wp2_with fail
 refine jay (fun V => Below w.heap.size w V ∧ Tb (w.heap.size + 1 + 1) oP V ∧ Lp V) ⟨by go_grown, Tb.new' _ oP 72 _ (by simp), ((hL.alloc _).alloc _).alloc _⟩ ?_
 rintro V ⟨BV, hO, LV⟩
 refine (C1 _ LV.l).mono ?_
 rintro e w2 ⟨rfl, B2⟩
 have O2 := hO.below B2
 have BW := jaa BV BV.size B2
 obtain ⟨z, a, b, c, f⟩ := O2
 clear hO B2 BV LV C1 V
 go_wp2_with fail
 refine bodyPost_ret (v := vT g) (by simp [results, Tryz.results192, go_sem, *]) rfl ⟨rfl, ?_⟩
 exact (jah (y := g) BW (by omega)).alloc (by simp [World.setCell]; have := BW.size; omega) _
theorem pline1 (s t q : Pt) (hs : s = iN) (w : World) (hL : Lp w) :
  Calls Tryz.prog 191 #[vT s, vT t, vT q] w fun e w' => e = .returned (vP (lnA s t q)) ∧ Below w.heap.size w w' := by
 have eM : lnA s t q = o2 := by unfold lnA; rw [if_pos (.inl hs)]
 rw [eM]
 have hE := eqlI s
 rw [decide_eq_true hs] at hE
 clear eM hs
 obtain ⟨sX, sY, sI⟩ := s
 obtain ⟨tX, tY, tI⟩ := t
 obtain ⟨qX, qY, qI⟩ := q
 simp only [vT] at hE ⊢
 go_enter Tryz.func191, Tryz.ntmps191
 go_wp2_with fail
 refine wpOf (fun V => Below w.heap.size w V ∧ Tb w.heap.size ⟨sX, sY, sI⟩ V ∧ Tb (w.heap.size + 1) ⟨tX, tY, tI⟩ V ∧ Tb (w.heap.size + 1 + 1) ⟨qX, qY, qI⟩ V ∧ Pb (w.heap.size + 1 + 1 + 1) z2 V ∧ Lp V) ⟨by go_grown, (((Tb.new' w ⟨sX, sY, sI⟩ 72 _ rfl).alloc _).alloc _).alloc _, ((Tb.new' _ ⟨tX, tY, tI⟩ 72 _ (by simp)).alloc _).alloc _, (Tb.new' _ ⟨qX, qY, qI⟩ 72 _ (by simp)).alloc _, Pb.new' _ z2 111 _ (by simp), (((hL.alloc _).alloc _).alloc _).alloc _⟩ ?_
 rintro V ⟨BV, hA, hB, hC, hO, hLV⟩
 have k0 := cell_regrown hA.a
 have k1 := cell_regrown hA.b
 have k2 := cell_regrown hA.c
 have k3 := cell_regrown hB.a
 have k4 := cell_regrown hB.b
 have k5 := cell_regrown hB.c
 have k6 := cell_regrown hLV.a0
 have k7 := cell_regrown hLV.a1
 have k8 := cell_regrown hLV.a2
 have HV : Hid (_ ∧ _ ∧ _ ∧ _ ∧ _ ∧ _) := ⟨BV, hA, hB, hC, hO, hLV⟩
 clear hA hB hC hO BV hL hLV
 refine wp_region_quiet_below (by kernel_rfl) (by kernel_rfl) ?_
 iterate 4 (quiet_step (fail))
 iterate 10 (go_big_quiet_step (fail))
 refine wpQuiet_nil ?_
 intro w8 hw8
 have B8 : Below V.heap.size V w8 := by
  obtain ⟨p, rfl⟩ := hw8
  exact below_regrown _ _ _
 obtain ⟨BV, hA, hB, hC, hO, hLV⟩ := HV.out
 have BW := jaa BV BV.size B8
 obtain ⟨z, a, b, f⟩ := hO.below B8
 have L8' := hLV.below B8
 have lq := L8'.ne
 have b0 := L8'.b0
 have b1 := L8'.b1
 have zb := L8'.zb
 clear hw8 k0 k1 k2 k3 k4 k5 k6 k7 k8 hA hB hC hO hLV BV L8' HV
 go_wp2_with fail
 refine bodyPost_ret (v := vP o2) (by simp [results, Tryz.results191, go_sem, o2, *]) rfl ⟨rfl, ?_⟩
 exact (BW.setCell (p := ⟨w.heap.size + 1 + 1 + 1, 0, none⟩) (by show _ ≤ w.heap.size + 1 + 1 + 1; omega) _).setCell (p := ⟨w.heap.size + 1 + 1 + 1, 1, none⟩) (by show _ ≤ w.heap.size + 1 + 1 + 1; omega) _
theorem pline2 (s t q : Pt) (hs : ¬ s = iN) (ht : t = iN) (w : World) (hL : Lp w) :
  Calls Tryz.prog 191 #[vT s, vT t, vT q] w fun e w' => e = .returned (vP (lnA s t q)) ∧ Below w.heap.size w w' := by
 have eM : lnA s t q = o2 := by unfold lnA; rw [if_pos (.inr (.inl ht))]
 rw [eM]
 have hE := eqlI s
 rw [decide_eq_false hs] at hE
 have hF := eqlI t
 rw [decide_eq_true ht] at hF
 clear eM hs ht
 obtain ⟨sX, sY, sI⟩ := s
 obtain ⟨tX, tY, tI⟩ := t
 obtain ⟨qX, qY, qI⟩ := q
 simp only [vT] at hE hF ⊢
 go_enter Tryz.func191, Tryz.ntmps191
 go_wp2_with fail
 refine wpOf (fun V => Below w.heap.size w V ∧ Tb w.heap.size ⟨sX, sY, sI⟩ V ∧ Tb (w.heap.size + 1) ⟨tX, tY, tI⟩ V ∧ Tb (w.heap.size + 1 + 1) ⟨qX, qY, qI⟩ V ∧ Pb (w.heap.size + 1 + 1 + 1) z2 V ∧ Lp V) ⟨by go_grown, (((Tb.new' w ⟨sX, sY, sI⟩ 72 _ rfl).alloc _).alloc _).alloc _, ((Tb.new' _ ⟨tX, tY, tI⟩ 72 _ (by simp)).alloc _).alloc _, (Tb.new' _ ⟨qX, qY, qI⟩ 72 _ (by simp)).alloc _, Pb.new' _ z2 111 _ (by simp), (((hL.alloc _).alloc _).alloc _).alloc _⟩ ?_
 rintro V ⟨BV, hA, hB, hC, hO, hLV⟩
 have k0 := cell_regrown hA.a
 have k1 := cell_regrown hA.b
 have k2 := cell_regrown hA.c
 have k3 := cell_regrown hB.a
 have k4 := cell_regrown hB.b
 have k5 := cell_regrown hB.c
 have k6 := cell_regrown hLV.a0
 have k7 := cell_regrown hLV.a1
 have k8 := cell_regrown hLV.a2
 have HV : Hid (_ ∧ _ ∧ _ ∧ _ ∧ _ ∧ _) := ⟨BV, hA, hB, hC, hO, hLV⟩
 clear hA hB hC hO BV hL hLV
 refine wp_region_quiet_below (by kernel_rfl) (by kernel_rfl) ?_
 iterate 9 (quiet_step (fail))
 iterate 5 (go_big_quiet_step (fail))
 refine wpQuiet_nil ?_
 intro w8 hw8
 have B8 : Below V.heap.size V w8 := by
  obtain ⟨p, rfl⟩ := hw8
  exact below_regrown _ _ _
 obtain ⟨BV, hA, hB, hC, hO, hLV⟩ := HV.out
 have BW := jaa BV BV.size B8
 obtain ⟨z, a, b, f⟩ := hO.below B8
 have L8' := hLV.below B8
 have lq := L8'.ne
 have b0 := L8'.b0
 have b1 := L8'.b1
 have zb := L8'.zb
 clear hw8 k0 k1 k2 k3 k4 k5 k6 k7 k8 hA hB hC hO hLV BV L8' HV
 go_wp2_with fail
 refine bodyPost_ret (v := vP o2) (by simp [results, Tryz.results191, go_sem, o2, *]) rfl ⟨rfl, ?_⟩
 exact (BW.setCell (p := ⟨w.heap.size + 1 + 1 + 1, 0, none⟩) (by show _ ≤ w.heap.size + 1 + 1 + 1; omega) _).setCell (p := ⟨w.heap.size + 1 + 1 + 1, 1, none⟩) (by show _ ≤ w.heap.size + 1 + 1 + 1; omega) _
theorem pline3 (s t q : Pt) (hs : ¬ s = iN) (ht : ¬ t = iN) (hn : t = ngN s) (us : onN s = true) (w : World) (hL : Lp w) :
  Calls Tryz.prog 191 #[vT s, vT t, vT q] w fun e w' => e = .returned (vP (lnA s t q)) ∧ Below w.heap.size w w' := by
 have eM : lnA s t q = o2 := by unfold lnA; rw [if_pos (.inr (.inr hn))]
 rw [eM]
 have hE := eqlI s
 rw [decide_eq_false hs] at hE
 have hF := eqlI t
 rw [decide_eq_false ht] at hF
 have hG := eqlT t (ngN s)
 rw [decide_eq_true hn] at hG
 have C0 := pneg_any s us
 obtain ⟨g, hg⟩ : ∃ g, ngN s = g := ⟨_, rfl⟩
 rw [hg] at C0 hG
 clear eM hs ht hn hg us
 obtain ⟨sX, sY, sI⟩ := s
 obtain ⟨tX, tY, tI⟩ := t
 obtain ⟨qX, qY, qI⟩ := q
 simp only [vT] at hE hF hG C0 ⊢
 go_enter Tryz.func191, Tryz.ntmps191
 go_wp2_with fail
 refine wpOf (fun V => Below w.heap.size w V ∧ Tb w.heap.size ⟨sX, sY, sI⟩ V ∧ Tb (w.heap.size + 1) ⟨tX, tY, tI⟩ V ∧ Tb (w.heap.size + 1 + 1) ⟨qX, qY, qI⟩ V ∧ Pb (w.heap.size + 1 + 1 + 1) z2 V ∧ Lp V) ⟨by go_grown, (((Tb.new' w ⟨sX, sY, sI⟩ 72 _ rfl).alloc _).alloc _).alloc _, ((Tb.new' _ ⟨tX, tY, tI⟩ 72 _ (by simp)).alloc _).alloc _, (Tb.new' _ ⟨qX, qY, qI⟩ 72 _ (by simp)).alloc _, Pb.new' _ z2 111 _ (by simp), (((hL.alloc _).alloc _).alloc _).alloc _⟩ ?_
 rintro V ⟨BV, hA, hB, hC, hO, hLV⟩
 have k0 := cell_regrown hA.a
 have k1 := cell_regrown hA.b
 have k2 := cell_regrown hA.c
 have k3 := cell_regrown hB.a
 have k4 := cell_regrown hB.b
 have k5 := cell_regrown hB.c
 have k6 := cell_regrown hLV.a0
 have k7 := cell_regrown hLV.a1
 have k8 := cell_regrown hLV.a2
 have c1 := inClassP C0 hLV
 clear C0
 have HV : Hid (_ ∧ _ ∧ _ ∧ _ ∧ _ ∧ _) := ⟨BV, hA, hB, hC, hO, hLV⟩
 clear hA hB hC hO BV hL hLV
 refine wp_region_quiet_below (by kernel_rfl) (by kernel_rfl) ?_
 iterate 11 (quiet_step (fail))
 quiet_step (exact c1 _ _)
 iterate 2 (quiet_step (fail))
 refine wpQuiet_nil ?_
 intro w8 hw8
 have B8 : Below V.heap.size V w8 := by
  obtain ⟨p, rfl⟩ := hw8
  exact below_regrown _ _ _
 obtain ⟨BV, hA, hB, hC, hO, hLV⟩ := HV.out
 have BW := jaa BV BV.size B8
 obtain ⟨z, a, b, f⟩ := hO.below B8
 have L8' := hLV.below B8
 have lq := L8'.ne
 have b0 := L8'.b0
 have b1 := L8'.b1
 have zb := L8'.zb
 clear c1 hw8 k0 k1 k2 k3 k4 k5 k6 k7 k8 hA hB hC hO hLV BV L8' HV
 go_wp2_with fail
 refine bodyPost_ret (v := vP o2) (by simp [results, Tryz.results191, go_sem, o2, *]) rfl ⟨rfl, ?_⟩
 exact (BW.setCell (p := ⟨w.heap.size + 1 + 1 + 1, 0, none⟩) (by show _ ≤ w.heap.size + 1 + 1 + 1; omega) _).setCell (p := ⟨w.heap.size + 1 + 1 + 1, 1, none⟩) (by show _ ≤ w.heap.size + 1 + 1 + 1; omega) _
theorem pline4 (s t q : Pt) (hs : ¬ s = iN) (ht : ¬ t = iN) (hn : ¬ t = ngN s) (us : onN s = true) (ut : UT t) (uq : UT q) (w : World) (hL : Lp w) :
  Calls Tryz.prog 191 #[vT s, vT t, vT q] w fun e w' => e = .returned (vP (lnA s t q)) ∧ Below w.heap.size w w' := by
 have eM : lnA s t q = ⟨sbN (muN (slN s t) (adN s.X q.X)) s.Y, q.Y⟩ := by unfold lnA; rw [if_neg (by rintro (h | h | h); exact hs h; exact ht h; exact hn h)]
 rw [eM]
 have vs := wl_u (jbs us)
 have C1 := pslope_any s t vs ut
 have C2 := jev s.X q.X vs.1 uq.1
 have C3 := jbn (slN s t) (adN s.X q.X) (pm_u _ (sl_lt _ _)) (pm_u _ (ad_lt _ _))
 have C4 := jdd (muN (slN s t) (adN s.X q.X)) s.Y (pm_u _ (jbq _ _)) vs.2
 obtain ⟨x, hx⟩ : ∃ x, sbN (muN (slN s t) (adN s.X q.X)) s.Y = x := ⟨_, rfl⟩
 rw [hx] at C4 ⊢
 obtain ⟨x1, h1⟩ : ∃ x, slN s t = x := ⟨_, rfl⟩
 rw [h1] at C1 C3 C4
 obtain ⟨x2, h2⟩ : ∃ x, adN s.X q.X = x := ⟨_, rfl⟩
 rw [h2] at C2 C3 C4
 obtain ⟨x3, h3⟩ : ∃ x, muN x1 x2 = x := ⟨_, rfl⟩
 rw [h3] at C3 C4
 have hE := eqlI s
 rw [decide_eq_false hs] at hE
 have hF := eqlI t
 rw [decide_eq_false ht] at hF
 have hG := eqlT t (ngN s)
 rw [decide_eq_false hn] at hG
 have C0 := pneg_any s us
 obtain ⟨g, hg⟩ : ∃ g, ngN s = g := ⟨_, rfl⟩
 rw [hg] at C0 hG
 clear eM hs ht hn hg us vs ut uq hx h1 h2 h3
 obtain ⟨sX, sY, sI⟩ := s
 obtain ⟨tX, tY, tI⟩ := t
 obtain ⟨qX, qY, qI⟩ := q
 simp only [vT] at hE hF hG C0 C1 C2 C4 ⊢
 go_enter Tryz.func191, Tryz.ntmps191
 go_wp2_with fail
 refine wpOf (fun V => Below w.heap.size w V ∧ Tb w.heap.size ⟨sX, sY, sI⟩ V ∧ Tb (w.heap.size + 1) ⟨tX, tY, tI⟩ V ∧ Tb (w.heap.size + 1 + 1) ⟨qX, qY, qI⟩ V ∧ Pb (w.heap.size + 1 + 1 + 1) z2 V ∧ Lp V) ⟨by go_grown, (((Tb.new' w ⟨sX, sY, sI⟩ 72 _ rfl).alloc _).alloc _).alloc _, ((Tb.new' _ ⟨tX, tY, tI⟩ 72 _ (by simp)).alloc _).alloc _, (Tb.new' _ ⟨qX, qY, qI⟩ 72 _ (by simp)).alloc _, Pb.new' _ z2 111 _ (by simp), (((hL.alloc _).alloc _).alloc _).alloc _⟩ ?_
 rintro V ⟨BV, hA, hB, hC, hO, hLV⟩
 have k0 := cell_regrown hA.a
 have k1 := cell_regrown hA.b
 have k2 := cell_regrown hA.c
 have k3 := cell_regrown hB.a
 have k4 := cell_regrown hB.b
 have k5 := cell_regrown hB.c
 have k6 := cell_regrown hLV.a0
 have k7 := cell_regrown hLV.a1
 have k8 := cell_regrown hLV.a2
 have c1 := inClassP C0 hLV
 clear C0
 have HV : Hid (_ ∧ _ ∧ _ ∧ _ ∧ _ ∧ _) := ⟨BV, hA, hB, hC, hO, hLV⟩
 clear hA hB hC hO BV hL hLV
 refine wp_region_quiet_below (by kernel_rfl) (by kernel_rfl) ?_
 iterate 11 (quiet_step (fail))
 quiet_step (exact c1 _ _)
 iterate 2 (quiet_step (fail))
 refine wpQuiet_nil ?_
 intro w8 hw8
 have B8 : Below V.heap.size V w8 := by
  obtain ⟨p, rfl⟩ := hw8
  exact below_regrown _ _ _
 obtain ⟨BV, hA, hB, hC, hO, hLV⟩ := HV.out
 have BW := jaa BV BV.size B8
 have A8 := hA.below B8
 have D8 := hB.below B8
 have Q8 := hC.below B8
 have O8 := hO.below B8
 clear hw8 k0 k1 k2 k3 k4 k5 k6 k7 k8 hA hB hC hO hLV BV HV c1 B8 V hE hF hG
 have j0 := cell_regrown A8.a
 have j1 := cell_regrown A8.b
 have j2 := cell_regrown A8.c
 have j3 := cell_regrown D8.a
 have j4 := cell_regrown D8.b
 have j5 := cell_regrown D8.c
 have j6 := cell_regrown Q8.a
 have j7 := cell_regrown Q8.b
 have d1 := jae (w := w8) C1
 have d2 := jae (w := w8) C2
 have d3 := jae (w := w8) C3
 have d4 := jae (w := w8) C4
 have HV : Hid (_ ∧ _) := ⟨BW, O8⟩
 clear A8 D8 Q8 O8 BW C1 C2 C3 C4
 go_wp2_with fail
 refine jar 15 (by kernel_rfl) (by kernel_rfl) ?_
 simp only [List.take_succ_cons, List.take_zero, List.drop_succ_cons, List.drop_zero]
 iterate 2 (quiet_step (fail))
 quiet_step (exact d1 _ _)
 iterate 4 (quiet_step (fail))
 quiet_step (exact d2 _ _)
 quiet_step (exact d3 _ _)
 iterate 2 (quiet_step (fail))
 quiet_step (exact d4 _ _)
 iterate 3 (quiet_step (fail))
 refine wpQuiet_nil ?_
 intro u8 hu8
 have B8 : Below w8.heap.size w8 u8 := by
  obtain ⟨p, rfl⟩ := hu8
  exact below_regrown _ _ _
 obtain ⟨BW, O8⟩ := HV.out
 obtain ⟨z, a, b, f⟩ := O8.below B8
 have BW9 := jaa BW BW.size B8
 clear hu8 j0 j1 j2 j3 j4 j5 j6 j7 d1 d2 d3 d4 HV O8 BW B8
 go_wp2_with fail
 refine bodyPost_ret (v := vP ⟨x, qY⟩) (by simp [results, Tryz.results191, go_sem, *]) rfl ⟨rfl, ?_⟩
 exact (BW9.setCell (p := ⟨w.heap.size + 1 + 1 + 1, 0, none⟩) (by show _ ≤ w.heap.size + 1 + 1 + 1; omega) _).setCell (p := ⟨w.heap.size + 1 + 1 + 1, 1, none⟩) (by show _ ≤ w.heap.size + 1 + 1 + 1; omega) _
theorem pline_any (s t q : Pt) (us : onN s = true) (ut : UT t) (uq : UT q) (w : World) (hL : Lp w) :
  Calls Tryz.prog 191 #[vT s, vT t, vT q] w fun e w' => e = .returned (vP (lnA s t q)) ∧ Below w.heap.size w w' := by
 by_cases hs : s = iN
 ·exact pline1 s t q hs w hL
 by_cases ht : t = iN
 ·exact pline2 s t q hs ht w hL
 by_cases hn : t = ngN s
 ·exact pline3 s t q hs ht hn us w hL
 exact pline4 s t q hs ht hn us ut uq w hL
abbrev okP (x : P2) : Value := .tuple #[vP x, .int .i64 0]
abbrev erP : Value := .tuple #[vP z2, .int .i64 100]
theorem len64_order (w : World) : Calls Tryz.prog 196 #[.int .u64 ((536870717 : Nat) : Int)] w fun e w' => e = .returned (.int .i64 29) ∧ Below w.heap.size w w' := by
 rw [show ((536870717 : Nat) : Int) = 536870717 from rfl]
 go_enter Tryz.func196, Tryz.ntmps196
 go_wp2_with fail
 go_ret
 exact ⟨by kernel_rfl, Below.refl _ _⟩
theorem behind_any (n : Nat) (w : World) :
  Calls Tryz.prog 190 #[.int .u64 n] w fun e w' => e = .returned (.func (.func 197) #[] #[.pointer (some ⟨w.heap.size, 0, none⟩)]) ∧ w' = w.alloc (.cells #[.int .u64 n] 22) := by
 go_enter Tryz.func190, Tryz.ntmps190
 go_wp2
 go_ret
 exact ⟨rfl, rfl⟩
attribute [local go_sem] Oper.semAt_some
theorem behind1_in (n l bX : Nat) (t : Nat) (ht : U64 t) (CL : ∀ W : World, Calls Tryz.prog 196 #[.int .u64 (t : Int)] W fun e w' => e = .returned (.int .i64 29) ∧ Below W.heap.size W w') (J Jx : List Bool → World → Prop) (B : Nat) (hJ : AbidesFrom B J)
  (hY : ∀ m pre x W, J pre W → pre.length < 64 → YieldAt Fence.wide m Tryz.prog l (dEnc x) W fun e W' =>
   (e = .returned (.bool true) ∧ J (pre ++ [x]) W' ∧ NumK bX t W W') ∨ (e = .returned (.bool false) ∧ Jx (pre ++ [x]) W'))
  (W : World) (hc : NumIn bX t W) (h0 : J [] W) :
  CallsIn Fence.wide n Tryz.prog 197 #[.func (.yield l) #[] #[], .pointer (some ⟨bX, 0, none⟩)] W fun e W' => (∃ v, e = .returned v) ∧
   (J (jbe t 28 28) W' ∨ (∃ q, q ≤ 28 ∧ Jx (jbe t 28 q) W')) := by
 have hc0 : W.cell? ⟨bX, 0, none⟩ = some (.int .u64 (t : Int)) := hc.cell 0
 refine callsIn_of_wp Tryz.func197 rfl trivial ?_ rfl
 simp only [Tryz.ntmps197, List.size_toArray, List.length_cons, List.length_nil, Nat.reduceAdd, Nat.reduceSub, Array.replicate_succ, Array.replicate_zero, List.push_toArray, List.append_toArray, List.nil_append, List.cons_append]
 gi_wp2_with fail
 refine ⟨trivial, fun h => (by cases h), (callsIn_wide.2 (CL W)).mono ?_⟩
 rintro e W1 ⟨rfl, B1⟩
 have J1 := hJ _ _ _ none h0 (jeh B1) (fun r h => by cases h)
 have C1 := hc.below B1
 clear hc0 h0 hc B1
 gi_wp2_with fail
 gi_loopw [3] (fun i wr => ∃ q : Nat, q ≤ 28 ∧ i = .int .i64 (27 - (q : Int)) ∧ J (jbe t 28 q) wr ∧ NumIn bX t wr)
  (fun i _ => ((intOf i) + 1).toNat)
 case atStart => exact ⟨0, by omega, by simp, J1, C1⟩
 case round =>
  clear J1 C1
  obtain ⟨q, hq, rfl, hJs, hkt⟩ := hrel
  have hc1 : wr.cell? ⟨bX, 0, none⟩ = some (.int .u64 (t : Int)) := hkt.cell 0
  by_cases hlq : q < 28
  ·obtain ⟨p, hp⟩ : ∃ p, 27 - q = p := ⟨_, rfl⟩
   have hpi : 27 - (q : Int) = (p : Int) := by omega
   obtain ⟨y, hy⟩ : ∃ y, t / 2 ^ p = y := ⟨_, rfl⟩
   have hyU : U64 y := by rw [← hy]; exact Nat.lt_of_le_of_lt (Nat.div_le_self _ _) ht
   have hd : (t : Int) / 2 ^ p = y := by rw [← hy]; simp [Int.natCast_ediv, Int.natCast_pow]
   have ha1 := jhb y hyU
   have hbt : jeu t 28 q = (y % 2 == 1) := by unfold jeu; rw [show 28 - 1 - q = 27 - q by omega, hp, hy]
   obtain ⟨b, hb⟩ : ∃ b, jeu t 28 q = b := ⟨_, rfl⟩
   have hbe : ((y : Int) % 2 == 1) = b := by
    rw [← hb, hbt, show (y : Int) % 2 = ((y % 2 : Nat) : Int) by omega]
    rcases Nat.mod_two_eq_zero_or_one y with h | h <;> rw [h] <;> rfl
   rw [show ((y % 2 : Nat) : Int) = (y : Int) % 2 by omega] at ha1
   obtain ⟨fn, tmps, assign, body, hyy, hR⟩ := hY (n - 1) _ b wr hJs (by rw [bits_len]; omega)
   unfold dEnc at hyy
   have HH : Hid (_ ∧ _) := ⟨hkt, hb⟩
   have wp1 : IntKind.i64.wrap ((p : Int) - 1) = (p : Int) - 1 := by rw [IntKind.wrap_i64]; omega
   rw [hpi]
   clear hkt hb hJs hbt hy
   gi_wp2
   refine ⟨fun h => (by cases h), hR.mono ?_⟩
   rintro e W3 (⟨rfl, hJ3, hk3⟩ | ⟨rfl, hJx3⟩)
   ·gi_wp2
    go_roundw
    case rel => exact ⟨q + 1, by omega, by congr 1; omega, by rw [jcf, HH.out.2]; exact hJ3, hk3 HH.out.1⟩
    case measure => simp [intOf]
   ·gi_wp2
    exact bodyPost_ret (v := .tuple #[]) (by simp [results, Tryz.results197, go_sem]) rfl ⟨⟨_, rfl⟩, .inr ⟨q + 1, by omega, by rw [jcf, HH.out.2]; exact hJx3⟩⟩
  ·obtain rfl : q = 28 := by omega
   rw [show (27 : Int) - (28 : Nat) = -1 by omega]
   gi_wp2
   go_end0
   exact ⟨⟨_, rfl⟩, .inl hJs⟩
theorem behind_stops (n bX : Nat) (t : Nat) (ht : U64 t) (CL : ∀ W : World, Calls Tryz.prog 196 #[.int .u64 (t : Int)] W fun e w' => e = .returned (.int .i64 29) ∧ Below W.heap.size W w') (w : World) (hc : NumIn bX t w) :
  SeqStopsK Fence.wide n Tryz.prog 197 #[.pointer (some ⟨bX, 0, none⟩)] dEnc (NumK bX t) (fun ys => ys = jbe t 28 28) (fun ys => ∃ q, q ≤ 28 ∧ ys = jbe t 28 q) 64 w := fun l J Jx W hW hJ _ hY h0 => by
 refine (behind1_in n l bX t ht CL J Jx W.heap.size hJ (fun m pre x W1 hj hl => jew m (hY pre x W1 hj hl)) W (hc.below hW) h0).mono ?_
 rintro e W' ⟨he, hj | ⟨q, hq, hj⟩⟩
 ·exact ⟨he, .inl ⟨_, rfl, hj⟩⟩
 ·exact ⟨he, .inr ⟨_, ⟨q, hq, rfl⟩, hj⟩⟩
end Go.Proofs.YtoddangedbefgabGreatDoor
