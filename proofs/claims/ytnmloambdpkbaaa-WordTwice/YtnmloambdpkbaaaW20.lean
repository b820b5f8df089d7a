/- WordTwice's own statements, walked: for any word and any two numbers the law returns true. No condition. -/
import Derived.Test.YtnmloambdpkbaaaW17
namespace Go.Proofs.Ytnmloambdpkbaaa
open Go.RowKit Go.Shelf Go.Sort

theorem up_up (x y z : Int) (hx : 0 ≤ x ∧ x < 128) (hy : 0 ≤ y ∧ y < 128) : up x (up y z) = up (x + y) z := by
  unfold up
  rw [if_pos (by omega), if_pos (by omega), if_pos (by omega), Int.mul_emod, Int.emod_emod, ← Int.mul_emod, Int.mul_assoc, ← Int.pow_add]
  congr 3
  omega

theorem dn_dn (x y z : Int) (hx : 0 ≤ x ∧ x < 128) (hy : 0 ≤ y ∧ y < 128) : dn x (dn y z) = dn (x + y) z := by
  unfold dn
  rw [if_pos (by omega), if_pos (by omega), if_pos (by omega), Int.ediv_ediv_of_nonneg (Int.le_of_lt (pw_pos _)), ← Int.pow_add]
  congr 2
  omega

theorem back_up (x z : Int) (hx : 0 < x ∧ x < 128) (hz : 0 ≤ z ∧ z < 115792089237316195423570985008687907853269984665640564039457584007913129639936) : (up x (dn x z) + dn (256 - x) (up (256 - x) z)) % 115792089237316195423570985008687907853269984665640564039457584007913129639936 = z := by
  have p := pw_pos x.toNat
  have q := pw_pos (256 - x).toNat
  have e : (2 : Int) ^ x.toNat * 2 ^ (256 - x).toNat = 115792089237316195423570985008687907853269984665640564039457584007913129639936 := by
    rw [← Int.pow_add, show x.toNat + (256 - x).toNat = 256 by omega]
    rfl
  unfold up dn
  rw [if_pos (by omega), if_pos (by omega), if_pos (by omega), if_pos (by omega)]
  generalize (2 : Int) ^ x.toNat = U at *
  generalize (2 : Int) ^ (256 - x).toNat = V at *
  have e2 : z * V % 115792089237316195423570985008687907853269984665640564039457584007913129639936 = (z % U) * V := by
    rw [← e, Int.mul_comm z V, Int.mul_comm U V, Int.mul_emod_mul_of_pos _ _ q, Int.mul_comm]
  rw [e2, Int.mul_ediv_cancel _ (Int.ne_of_gt q)]
  have e3 := Int.emod_add_mul_ediv z U
  have e4 : 0 ≤ z / U := Int.ediv_nonneg hz.1 (Int.le_of_lt p)
  have e5 : 0 ≤ z % U := Int.emod_nonneg _ (Int.ne_of_gt p)
  have e6 : 0 ≤ U * (z / U) := Int.mul_nonneg (Int.le_of_lt p) e4
  rw [Int.mul_comm (z / U) U]
  omega

/-- Two words that lie in blocks p and q. -/
abbrev SG (p q : Nat) (a0 a1 a2 a3 b0 b1 b2 b3 : Int) (W : World) : Prop := p < W.heap.size ∧ q < W.heap.size ∧ W.cell? ⟨p, 0, none⟩ = some (.int .u64 a0) ∧ W.cell? ⟨p, 1, none⟩ = some (.int .u64 a1) ∧ W.cell? ⟨p, 2, none⟩ = some (.int .u64 a2) ∧ W.cell? ⟨p, 3, none⟩ = some (.int .u64 a3) ∧ W.cell? ⟨q, 0, none⟩ = some (.int .u64 b0) ∧ W.cell? ⟨q, 1, none⟩ = some (.int .u64 b1) ∧ W.cell? ⟨q, 2, none⟩ = some (.int .u64 b2) ∧ W.cell? ⟨q, 3, none⟩ = some (.int .u64 b3)

section
variable {p q n : Nat} {a0 a1 a2 a3 b0 b1 b2 b3 : Int} {W W' : World}
theorem SG.mk' (h : Cw p a0 a1 a2 a3 W) (k : Cw q b0 b1 b2 b3 W) : SG p q a0 a1 a2 a3 b0 b1 b2 b3 W := ⟨h.z, k.z, h.c0, h.c1, h.c2, h.c3, k.c0, k.c1, k.c2, k.c3⟩
theorem SG.below (h : SG p q a0 a1 a2 a3 b0 b1 b2 b3 W) (hb : Below W.heap.size W W') : SG p q a0 a1 a2 a3 b0 b1 b2 b3 W' := by
  obtain ⟨z, y, h0, h1, h2, h3, h4, h5, h6, h7⟩ := h
  exact SG.mk' (Cw.below ⟨z, h0, h1, h2, h3⟩ hb) (Cw.below ⟨y, h4, h5, h6, h7⟩ hb)
theorem SG.alloc (h : SG p q a0 a1 a2 a3 b0 b1 b2 b3 W) (o : Obj) : SG p q a0 a1 a2 a3 b0 b1 b2 b3 (W.alloc o) := h.below ((Below.refl _ W).alloc (Nat.le_refl _) o)
theorem SG.setCell (h : SG p q a0 a1 a2 a3 b0 b1 b2 b3 W) (c : Addr) (hp : p + 1 ≤ c.block) (hq : q + 1 ≤ c.block) (v : Value) : SG p q a0 a1 a2 a3 b0 b1 b2 b3 (W.setCell c v) := by
  obtain ⟨z, y, h0, h1, h2, h3, h4, h5, h6, h7⟩ := h
  exact SG.mk' (Cw.setCell ⟨z, h0, h1, h2, h3⟩ c hp v) (Cw.setCell ⟨y, h4, h5, h6, h7⟩ c hq v)

theorem SG.drew (h : SG p q a0 a1 a2 a3 b0 b1 b2 b3 W) : SG p q a0 a1 a2 a3 b0 b1 b2 b3 W.drew := h

/-- A word that may be written lies in block n. -/
structure Zw (n : Nat) (a0 a1 a2 a3 : Int) (W : World) : Prop where
  w : Cw n a0 a1 a2 a3 W
  f : ∀ o, W.frozen? ⟨n, o, none⟩ = false
theorem Zw.below (h : Zw n a0 a1 a2 a3 W) (hb : Below W.heap.size W W') : Zw n a0 a1 a2 a3 W' := ⟨h.w.below hb, fun o => (hb.frozen (p := ⟨n, o, none⟩) h.w.z).trans (h.f o)⟩
theorem Zw.new (W : World) (a0 a1 a2 a3 : Int) (t : TypeId) : Zw W.heap.size a0 a1 a2 a3 (W.alloc (.cells #[.int .u64 a0, .int .u64 a1, .int .u64 a2, .int .u64 a3] t)) :=
  ⟨Cw.new W a0 a1 a2 a3 t, fun o => by simp [go_sem]⟩
theorem Zw.drew (h : Zw n a0 a1 a2 a3 W) : Zw n a0 a1 a2 a3 W.drew := ⟨h.w.drew, h.f⟩
theorem Cw.put (h : Cw n a0 a1 a2 a3 W) : Cw n b0 b1 b2 b3 ((((W.setCell ⟨n, 0, none⟩ (.int .u64 b0)).setCell ⟨n, 1, none⟩ (.int .u64 b1)).setCell ⟨n, 2, none⟩ (.int .u64 b2)).setCell ⟨n, 3, none⟩ (.int .u64 b3)) := by
  obtain ⟨z, h0, h1, h2, h3⟩ := h
  exact ⟨by simp [go_sem, *], by simp [go_sem, *], by simp [go_sem, *], by simp [go_sem, *], by simp [go_sem, *]⟩
theorem thenLow {K : Act → World → Prop} {Q : Exit → Act → World → Prop} {x : Exit} {a : Act} {V : World} (hc : Cw n b0 b1 b2 b3 W) (hb : Below V.heap.size V W) (h : ∀ W', Below V.heap.size V W' → Cw n b0 b1 b2 b3 W' → Exit.then K Q x a W') : Exit.then K Q x a W := h W hb hc
end

/-- What is left of a drawn statement, in the text's order, as one thing. -/
structure Wq (P : Program) (ops : Array Oper) (C : World → Prop) (Q : Act → Prop) (l : List Oper) (a : Act) : Prop where
  out : wpQuiet P ops C Q l a
theorem Wq.step {P : Program} {ops : Array Oper} {C : World → Prop} {Q : Act → Prop} {o : Oper} {rest : List Oper} {a : Act}
    (h : ∀ K : Act → Prop, (∀ a, Wq P ops C Q rest a → K a) → if Region.wanted o (yielded ops a.tmps) then o.quiet P a C K else K (a.put o.dst undef)) : Wq P ops C Q (o :: rest) a :=
  ⟨h _ (fun _ k => k.out)⟩
theorem Wq.nil {P : Program} {ops : Array Oper} {C : World → Prop} {Q : Act → Prop} {a : Act} (h : Q a) : Wq P ops C Q [] a := ⟨h⟩

set_option maxHeartbeats 4000000 in
theorem twice_core (a0 a1 a2 a3 n m x y : Int) (ha : Ws a0 a1 a2 a3) (hx : 0 ≤ x ∧ x < 128) (hy : 0 ≤ y ∧ y < 128) (hnx : n.tmod 128 = x) (hmy : m.tmod 128 = y) (w : World) :
    Calls Try.prog 6 #[.agg #[.int .u64 a0, .int .u64 a1, .int .u64 a2, .int .u64 a3], .int .u64 n, .int .u64 m] w fun e w' => e = .returned (.bool true) ∧ Below w.heap.size w w' := by
  have ho : Pt 0 := ⟨by decide, by decide⟩
  have h256 : Ws 256 0 0 0 := ⟨⟨by decide, by decide⟩, ho, ho, ho⟩
  have hX : Ws x 0 0 0 := ⟨⟨hx.1, by omega⟩, ho, ho, ho⟩
  have hY : Ws y 0 0 0 := ⟨⟨hy.1, by omega⟩, ho, ho, ho⟩
  have vX : val x 0 0 0 = x := by unfold val; omega
  have vY : val y 0 0 0 = y := by unfold val; omega
  have v256 : val 256 0 0 0 = 256 := by decide
  have hA := val_bd _ _ _ _ ha
  obtain ⟨o0, o1, o2, o3, hO, vO, cO⟩ := exact4 (emod_bd _) (add_any x 0 0 0 y 0 0 0 hX hY)
  obtain ⟨d0, d1, d2, d3, hD, vD, cD⟩ := exact4 (emod_bd _) (sub_any 256 0 0 0 x 0 0 0 h256 hX)
  have wO : val o0 o1 o2 o3 = x + y := by rw [vO.out, vX, vY]; omega
  have wD : val d0 d1 d2 d3 = 256 - x := by rw [vD.out, vX, v256]; omega
  obtain ⟨f0, f1, f2, f3, hF, vF, cF⟩ := exact4 (up_bd _ _) (shl_any d0 d1 d2 d3 a0 a1 a2 a3 hD ha)
  obtain ⟨l0, l1, l2, l3, hL, vL, cL⟩ := exact4 (dn_bd _ _ (val_bd _ _ _ _ hF)) (shr_any d0 d1 d2 d3 f0 f1 f2 f3 hD hF)
  obtain ⟨p0, p1, p2, p3, hP, vP, cP⟩ := exact4 (up_bd _ _) (shl_any y 0 0 0 a0 a1 a2 a3 hY ha)
  obtain ⟨q0, q1, q2, q3, hQ, vQ, cQ⟩ := exact4 (up_bd _ _) (shl_any x 0 0 0 p0 p1 p2 p3 hX hP)
  obtain ⟨r0, r1, r2, r3, hR, vR, cR⟩ := exact4 (up_bd _ _) (shl_any o0 o1 o2 o3 a0 a1 a2 a3 hO ha)
  obtain ⟨s0, s1, s2, s3, hS, vS, cS⟩ := exact4 (dn_bd _ _ hA) (shr_any y 0 0 0 a0 a1 a2 a3 hY ha)
  obtain ⟨t0, t1, t2, t3, hT, vT, cT⟩ := exact4 (dn_bd _ _ (val_bd _ _ _ _ hS)) (shr_any x 0 0 0 s0 s1 s2 s3 hX hS)
  obtain ⟨u0, u1, u2, u3, hU, vU, cU⟩ := exact4 (dn_bd _ _ hA) (shr_any o0 o1 o2 o3 a0 a1 a2 a3 hO ha)
  obtain ⟨g0, g1, g2, g3, hG, vG, cG⟩ := exact4 (dn_bd _ _ hA) (shr_any x 0 0 0 a0 a1 a2 a3 hX ha)
  obtain ⟨i0, i1, i2, i3, hI, vI, cI⟩ := exact4 (up_bd _ _) (shl_any x 0 0 0 g0 g1 g2 g3 hX hG)
  obtain ⟨j0, j1, j2, j3, hJ, vJ, cJ⟩ := exact4 (emod_bd _) (add_any i0 i1 i2 i3 l0 l1 l2 l3 hI hL)
  have e1 := eq_word_yes q0 q1 q2 q3 r0 r1 r2 r3 hQ hR (by rw [vQ.out, vR.out, vP.out, wO, vX, vY]; exact up_up x y _ hx hy)
  have e2 := eq_word_yes t0 t1 t2 t3 u0 u1 u2 u3 hT hU (by rw [vT.out, vU.out, vS.out, wO, vX, vY]; exact dn_dn x y _ hx hy)
  have e3 : x ≠ 0 → ∀ w : World, (Op.equalIn 10000 24 (.agg #[.int .u64 j0, .int .u64 j1, .int .u64 j2, .int .u64 j3]) (.agg #[.int .u64 a0, .int .u64 a1, .int .u64 a2, .int .u64 a3])).run Try.prog w = .ok true w := fun h0 => eq_word_yes j0 j1 j2 j3 a0 a1 a2 a3 hJ ha (by rw [vJ.out, vI.out, vL.out, vF.out, vG.out, wD, vX]; exact back_up x _ ⟨by omega, hx.2⟩ hA)
  have KO : Hid (∀ w : World, _) := cO
  have KD : Hid (∀ w : World, _) := cD
  have KF : Hid (∀ w : World, _) := cF
  have KL : Hid (∀ w : World, _) := cL
  have KP : Hid (∀ w : World, _) := cP
  have KQ : Hid (∀ w : World, _) := cQ
  have KR : Hid (∀ w : World, _) := cR
  have KS : Hid (∀ w : World, _) := cS
  have KT : Hid (∀ w : World, _) := cT
  have KU : Hid (∀ w : World, _) := cU
  have KG : Hid (∀ w : World, _) := cG
  have KI : Hid (∀ w : World, _) := cI
  have KJ : Hid (∀ w : World, _) := cJ
  have K256 : Hid (∀ w : World, _) := of_any 256
  have KE : Hid (x ≠ 0 → _) := e3
  clear cO cD cF cL cP cQ cR cS cT cU cG cI cJ vO vD vF vL vP vQ vR vS vT vU vG vI vJ e3 wO wD vX vY v256 hA h256
  go_enter Try.func6, Try.ntmps6
  go_wp2_with fail
  refine (shown_any _).mono ?_
  rintro e w1 ⟨rfl, hb1⟩
  have A1 : Cw w.heap.size a0 a1 a2 a3 w1 := Cw.below (by repeat' (first | exact Cw.new _ _ _ _ _ _ | apply Cw.alloc | apply Cw.drew)) hb1
  have E1 := belowStep (n := w.heap.size) (w := w) (by go_grown) (by (try simp) <;> omega) hb1
  clear hb1
  go_wp2_with fail
  refine (of_any x _).mono ?_
  rintro e w2 ⟨rfl, hb2⟩
  have A2 : Cw w.heap.size a0 a1 a2 a3 w2 := Cw.below (by repeat' (first | exact A1 | apply Cw.alloc | apply Cw.drew)) hb2
  have E2 := belowStep E1 E1.size hb2
  clear hb2 A1 E1
  go_wp2_with fail
  refine (of_any y _).mono ?_
  rintro e w3 ⟨rfl, hb3⟩
  have A3 : Cw w.heap.size a0 a1 a2 a3 w3 := Cw.below (A2.alloc _) hb3
  have X3 : Cw w2.heap.size x 0 0 0 w3 := Cw.below (Cw.new _ _ _ _ _ _) hb3
  have E3 := belowStep (E2.alloc E2.size _) (by have := E2.size; simp; omega) hb3
  clear hb3 A2 E2
  have Y3 : Cw w3.heap.size y 0 0 0 (w3.alloc (.cells #[.int .u64 y, .int .u64 0, .int .u64 0, .int .u64 0] 24)) := Cw.new _ _ _ _ _ _
  obtain ⟨xz, x0, x1, x2, x3⟩ := X3.alloc (.cells #[.int .u64 y, .int .u64 0, .int .u64 0, .int .u64 0] 24)
  go_wp2_with fail
  refine (KO.out _).mono ?_
  rintro e w4 ⟨rfl, hb4⟩
  have A4 : Cw w.heap.size a0 a1 a2 a3 w4 := Cw.below (A3.alloc _) hb4
  have X4 : Cw w2.heap.size x 0 0 0 w4 := Cw.below (X3.alloc _) hb4
  have Y4 : Cw w3.heap.size y 0 0 0 w4 := Cw.below Y3 hb4
  have E4 := belowStep (E3.alloc E3.size _) (by have := E3.size; simp; omega) hb4
  clear hb4 A3 X3 Y3 E3 xz x0 x1 x2 x3
  go_wp2
  refine wpOf (fun W => Below w.heap.size w W ∧ Cw w.heap.size a0 a1 a2 a3 W ∧ Cw w2.heap.size x 0 0 0 W ∧ Cw w3.heap.size y 0 0 0 W ∧ Cw w4.heap.size o0 o1 o2 o3 W) ⟨?_, ?_, ?_, ?_, ?_⟩ ?_
  · exact E4.alloc E4.size _
  · exact A4.alloc _
  · exact X4.alloc _
  · exact Y4.alloc _
  · exact Cw.new _ _ _ _ _ _
  rintro V ⟨E5, A5, X5, Y5, O5⟩
  clear A4 X4 Y4 E4
  rename_i Q K hK
  have FIN : ∀ (β : Nat) (W : World), Below V.heap.size V W → Cw β l0 l1 l2 l3 W → K { tmps := #[.agg #[.int .u64 a0, .int .u64 a1, .int .u64 a2, .int .u64 a3], .int .u64 n, .int .u64 m, .pointer (some ⟨w.heap.size, 0, none⟩), undef, undef, .bool false, .bool true, .pointer (some ⟨w2.heap.size, 0, none⟩), .pointer (some ⟨w3.heap.size, 0, none⟩), .pointer (some ⟨w4.heap.size, 0, none⟩), .pointer (some ⟨β, 0, none⟩), .bool true, .int .u64 n, .int .u64 x, .agg #[.int .u64 x, .int .u64 0, .int .u64 0, .int .u64 0], .int .u64 m, .int .u64 y, .agg #[.int .u64 y, .int .u64 0, .int .u64 0, .int .u64 0], .agg #[.int .u64 x, .int .u64 0, .int .u64 0, .int .u64 0], .agg #[.int .u64 y, .int .u64 0, .int .u64 0, .int .u64 0], .agg #[.int .u64 o0, .int .u64 o1, .int .u64 o2, .int .u64 o3], .agg #[.int .u64 256, .int .u64 0, .int .u64 0, .int .u64 0], .agg #[.int .u64 x, .int .u64 0, .int .u64 0, .int .u64 0], .agg #[.int .u64 d0, .int .u64 d1, .int .u64 d2, .int .u64 d3], .agg #[.int .u64 256, .int .u64 0, .int .u64 0, .int .u64 0], .agg #[.int .u64 x, .int .u64 0, .int .u64 0, .int .u64 0], .agg #[.int .u64 d0, .int .u64 d1, .int .u64 d2, .int .u64 d3], .agg #[.int .u64 a0, .int .u64 a1, .int .u64 a2, .int .u64 a3], .agg #[.int .u64 f0, .int .u64 f1, .int .u64 f2, .int .u64 f3], .agg #[.int .u64 l0, .int .u64 l1, .int .u64 l2, .int .u64 l3], undef, undef, undef, undef, undef, undef, undef, undef, undef, undef, undef, undef, undef, undef, undef, undef, undef, undef, undef, undef, undef, undef, undef, undef, undef, undef, undef, undef, undef, undef, undef, undef, undef, undef, undef, undef, undef, undef, undef], defers := [] } W := by
    intro β W hbW L6
    have E6 := belowStep E5 E5.size hbW
    have A6 := A5.below hbW
    have X6 := X5.below hbW
    have Y6 := Y5.below hbW
    have O6 := O5.below hbW
    clear A5 X5 Y5 O5 E5 hbW
    have k0 := cell_regrown A6.c0
    have k1 := cell_regrown A6.c1
    have k2 := cell_regrown A6.c2
    have k3 := cell_regrown A6.c3
    have k4 := cell_regrown X6.c0
    have k5 := cell_regrown X6.c1
    have k6 := cell_regrown X6.c2
    have k7 := cell_regrown X6.c3
    have y0 := cell_regrown Y6.c0
    have y1 := cell_regrown Y6.c1
    have y2 := cell_regrown Y6.c2
    have y3 := cell_regrown Y6.c3
    have z0 := cell_regrown O6.c0
    have z1 := cell_regrown O6.c1
    have z2 := cell_regrown O6.c2
    have z3 := cell_regrown O6.c3
    have m0 := cell_regrown L6.c0
    have m1 := cell_regrown L6.c1
    have m2 := cell_regrown L6.c2
    have m3 := cell_regrown L6.c3
    have cP := inClass (w := W) KP.out
    have cQ := inClass (w := W) KQ.out
    have cR := inClass (w := W) KR.out
    have cS := inClass (w := W) KS.out
    have cT := inClass (w := W) KT.out
    have cU := inClass (w := W) KU.out
    have cG := inClass (w := W) KG.out
    have cI := inClass (w := W) KI.out
    have cJ := inClass (w := W) KJ.out
    refine hK _ _ ?_
    go_wp2
    refine wp_region_quiet_below (by kernel_rfl) (by kernel_rfl) ?_
    iterate 27 (quiet_step (first | (go_at_call_of 22 p0; exact cQ _ _) | (go_at_call_of 22 o0; exact cR _ _) | (go_at_call_of 22 g0; exact cI _ _) | (go_at_call_of 22 y; exact cP _ _) | (go_at_call_of 21 s0; exact cT _ _) | (go_at_call_of 21 o0; exact cU _ _) | (go_at_call_of 21 y; exact cS _ _) | (go_at_call_of 21 a0; exact cG _ _) | (go_at_call 14; exact cJ _ _)))
    by_cases hx0 : x = 0
    · have hd : (x == 0) = true := by simp [hx0]
      rw [hd]
      clear hd hx0
      refine Wq.out ?_
      repeat
        refine Wq.step (fun K hK => ?_)
        go_simp
        refine hK _ ?_
        clear hK K
      refine Wq.nil ?_
      intro w9 hw9
      have hb9 : Below W.heap.size W w9 := by
          obtain ⟨p, rfl⟩ := hw9
          exact below_regrown _ _ _
      clear hw9
      go_wp2
      go_ret
      exact ⟨rfl, belowStep E6 E6.size hb9⟩
    · have hd : (x == 0) = false := by simp [hx0]
      have e3 := KE.out hx0
      rw [hd]
      clear hd hx0
      repeat (quiet_step (first | (go_at_call_of 22 p0; exact cQ _ _) | (go_at_call_of 22 o0; exact cR _ _) | (go_at_call_of 22 g0; exact cI _ _) | (go_at_call_of 22 y; exact cP _ _) | (go_at_call_of 21 s0; exact cT _ _) | (go_at_call_of 21 o0; exact cU _ _) | (go_at_call_of 21 y; exact cS _ _) | (go_at_call_of 21 a0; exact cG _ _) | (go_at_call 14; exact cJ _ _)))
      refine wpQuiet_nil ?_
      intro w9 hw9
      have hb9 : Below W.heap.size W w9 := by
          obtain ⟨p, rfl⟩ := hw9
          exact below_regrown _ _ _
      clear hw9
      go_wp2
      go_ret
      exact ⟨rfl, belowStep E6 E6.size hb9⟩
  clear hK
  have g5 := SG.mk' A5 X5
  have g5d : SG w.heap.size w2.heap.size a0 a1 a2 a3 x 0 0 0 V.drew := g5
  have zA := A5.z
  have zX := X5.z
  go_region_held3 (fun w' => w.heap.size < w'.heap.size ∧ w2.heap.size < w'.heap.size ∧ w'.cell? ⟨w.heap.size, 0, none⟩ = some (.int .u64 a0) ∧ w'.cell? ⟨w.heap.size, 1, none⟩ = some (.int .u64 a1) ∧ w'.cell? ⟨w.heap.size, 2, none⟩ = some (.int .u64 a2) ∧ w'.cell? ⟨w.heap.size, 3, none⟩ = some (.int .u64 a3) ∧ w'.cell? ⟨w2.heap.size, 0, none⟩ = some (.int .u64 x) ∧ w'.cell? ⟨w2.heap.size, 1, none⟩ = some (.int .u64 0) ∧ w'.cell? ⟨w2.heap.size, 2, none⟩ = some (.int .u64 0) ∧ w'.cell? ⟨w2.heap.size, 3, none⟩ = some (.int .u64 0)) (((repeat' (first | with_reducible exact g11 | with_reducible exact g10 | with_reducible exact g9 | with_reducible exact g8 | with_reducible exact g7 | with_reducible exact g6 | with_reducible exact g5 | with_reducible exact g5d | with_reducible exact SG.drew (SG.alloc g5 _) | with_reducible refine SG.alloc (p := w.heap.size) (q := w2.heap.size) (a0 := a0) (a1 := a1) (a2 := a2) (a3 := a3) (b0 := x) (b1 := 0) (b2 := 0) (b3 := 0) ?_ _ | with_reducible refine SG.setCell (p := w.heap.size) (q := w2.heap.size) (a0 := a0) (a1 := a1) (a2 := a2) (a3 := a3) (b0 := x) (b1 := 0) (b2 := 0) (b3 := 0) ?_ _ ?_ ?_ _ | (dsimp only; omega))); done))
    (first
      | ((first | (have := q6; fail) | skip); go_at_call 17; refine (K256.out _).mono ?_; rintro e v6 ⟨rfl, hb6⟩; have g6 := SG.below (by first | with_reducible exact g5 | with_reducible exact g5d | with_reducible exact SG.drew (SG.alloc g5 _) | with_reducible exact SG.alloc g5 _ | with_reducible exact SG.alloc g5d _ | with_reducible exact SG.drew (SG.alloc g5 _)) hb6; have q6 : Below V.heap.size V v6 := belowStep (n := V.heap.size) (w := V) (by go_grown) (by (try simp) <;> omega) hb6; have n6 := q6.size; (first | (replace Z := Zw.below Z hb6; clear zz zc0 zc1 zc2 zc3 zf; obtain ⟨⟨zz, zc0, zc1, zc2, zc3⟩, zf⟩ := id Z) | (have Z := Zw.below (Zw.drew (Zw.new _ 0 0 0 0 _)) hb6; obtain ⟨⟨zz, zc0, zc1, zc2, zc3⟩, zf⟩ := id Z) | skip))
      | ((first | (have := q7; fail) | skip); go_at_call 19; refine (KD.out _).mono ?_; rintro e v7 ⟨rfl, hb7⟩; have g7 := SG.below (by first | with_reducible exact g6 | with_reducible exact SG.alloc g6 _) hb7; have q7 : Below V.heap.size V v7 := belowStep (n := V.heap.size) (w := V) (by go_grown) (by (try simp) <;> omega) hb7; have n7 := q7.size; (first | (replace Z := Zw.below Z hb7; clear zz zc0 zc1 zc2 zc3 zf; obtain ⟨⟨zz, zc0, zc1, zc2, zc3⟩, zf⟩ := id Z) | (have Z := Zw.below (Zw.new _ 0 0 0 0 _) hb7; obtain ⟨⟨zz, zc0, zc1, zc2, zc3⟩, zf⟩ := id Z) | skip))
      | ((first | (have := q8; fail) | skip); go_at_call 17; refine (K256.out _).mono ?_; rintro e v8 ⟨rfl, hb8⟩; have g8 := SG.below (by first | with_reducible exact g7 | with_reducible exact SG.alloc g7 _) hb8; have q8 : Below V.heap.size V v8 := belowStep (n := V.heap.size) (w := V) (by go_grown) (by (try simp) <;> omega) hb8; have n8 := q8.size; (first | (replace Z := Zw.below Z hb8; clear zz zc0 zc1 zc2 zc3 zf; obtain ⟨⟨zz, zc0, zc1, zc2, zc3⟩, zf⟩ := id Z) | (have Z := Zw.below (Zw.new _ 0 0 0 0 _) hb8; obtain ⟨⟨zz, zc0, zc1, zc2, zc3⟩, zf⟩ := id Z) | skip))
      | (go_at_call 19; refine (KD.out _).mono ?_; rintro e v9 ⟨rfl, hb9⟩; have g9 := SG.below (by first | with_reducible exact g8 | with_reducible exact SG.alloc g8 _) hb9; have q9 : Below V.heap.size V v9 := belowStep (n := V.heap.size) (w := V) (by go_grown) (by (try simp) <;> omega) hb9; have n9 := q9.size; (first | (replace Z := Zw.below Z hb9; clear zz zc0 zc1 zc2 zc3 zf; obtain ⟨⟨zz, zc0, zc1, zc2, zc3⟩, zf⟩ := id Z) | (have Z := Zw.below (Zw.new _ 0 0 0 0 _) hb9; obtain ⟨⟨zz, zc0, zc1, zc2, zc3⟩, zf⟩ := id Z) | skip))
      | (go_at_call 22; refine (KF.out _).mono ?_; rintro e v10 ⟨rfl, hb10⟩; have g10 := SG.below (by first | with_reducible exact g9 | with_reducible exact SG.alloc g9 _) hb10; have q10 : Below V.heap.size V v10 := belowStep (n := V.heap.size) (w := V) (by go_grown) (by (try simp) <;> omega) hb10; have n10 := q10.size; (first | (replace Z := Zw.below Z hb10; clear zz zc0 zc1 zc2 zc3 zf; obtain ⟨⟨zz, zc0, zc1, zc2, zc3⟩, zf⟩ := id Z) | (have Z := Zw.below (Zw.new _ 0 0 0 0 _) hb10; obtain ⟨⟨zz, zc0, zc1, zc2, zc3⟩, zf⟩ := id Z) | skip))
      | (go_at_call 21; refine (KL.out _).mono ?_; rintro e v11 ⟨rfl, hb11⟩; have g11 := SG.below (by first | with_reducible exact g10 | with_reducible exact SG.alloc g10 _) hb11; have q11 : Below V.heap.size V v11 := belowStep (n := V.heap.size) (w := V) (by go_grown) (by (try simp) <;> omega) hb11; have n11 := q11.size; (first | (replace Z := Zw.below Z hb11; clear zz zc0 zc1 zc2 zc3 zf; obtain ⟨⟨zz, zc0, zc1, zc2, zc3⟩, zf⟩ := id Z) | (have Z := Zw.below (Zw.new _ 0 0 0 0 _) hb11; obtain ⟨⟨zz, zc0, zc1, zc2, zc3⟩, zf⟩ := id Z) | skip)))
  all_goals
    refine thenLow (V := V) (b0 := l0) (b1 := l1) (b2 := l2) (b3 := l3) (by first | with_reducible exact Cw.put Z.w | with_reducible exact Cw.put (Cw.new _ 0 0 0 0 _) | with_reducible exact Cw.new _ _ _ _ _ _) ?_ (fun W hW hL => FIN _ W hW hL)
    go_grown

theorem twice_any (a0 a1 a2 a3 n m : Int) (ha : Ws a0 a1 a2 a3) (hn : Pt n) (hm : Pt m) (w : World) :
    Calls Try.prog 6 #[.agg #[.int .u64 a0, .int .u64 a1, .int .u64 a2, .int .u64 a3], .int .u64 n, .int .u64 m] w fun e w' => e = .returned (.bool true) ∧ Below w.heap.size w w' := by
  have e1 : n.tmod 128 = n % 128 := Int.tmod_eq_emod_of_nonneg hn.1
  have e2 : m.tmod 128 = m % 128 := Int.tmod_eq_emod_of_nonneg hm.1
  exact twice_core a0 a1 a2 a3 n m (n % 128) (m % 128) ha (by omega) (by omega) e1 e2 w

end Go.Proofs.Ytnmloambdpkbaaa
