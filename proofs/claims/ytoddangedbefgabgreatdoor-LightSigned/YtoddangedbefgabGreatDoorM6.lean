/- Lemmas: What the reference's Inv, Root, Mul2, Pow2, Inv2 do. No condition. What the reference's Root, Pow2, Inv2 do. No condition. -/
import Derived.Test.YtoddangedbefgabGreatDoorM3
import Derived.Test.YtoddangedbefgabGreatDoorM5
set_option maxRecDepth 20000
set_option maxHeartbeats 4000000
namespace Go.Proofs.YtoddangedbefgabGreatDoor
open Go.RowKit Go.Sort
theorem rinv_any (a : Nat) (ha : U64 a) (w : World) :
  Calls Tryz.prog 123 #[.int .u64 a] w fun e w' => e = .returned (.int .u64 (ivN a : Nat)) ∧ Below w.heap.size w w' := by
 go_enter Tryz.func123, Tryz.ntmps123
 go_wp2_with fail
 refine (rpow_any a 2147482865 ha (by unfold U64; omega) _).mono ?_
 rintro e w1 ⟨rfl, B1⟩
 go_wp2_with fail
 go_ret
 exact ⟨rfl, B1⟩
abbrev vP (a : P2) : Value := .agg #[.int .u64 (a.A : Int), .int .u64 (a.B : Int)]
abbrev UP (a : P2) : Prop := U64 a.A ∧ U64 a.B
theorem m2_u (a b : P2) : UP (m2 a b) := ⟨pm_u _ (m2_lt a b).1, pm_u _ (m2_lt a b).2⟩
theorem q2_u (a : P2) (n : Nat) : UP (q2 a n) := ⟨pm_u _ (q2_lt a n).1, pm_u _ (q2_lt a n).2⟩
theorem jep (a b : P2) (ha : UP a) (hb : UP b) (w : World) :
  Calls Tryz.prog 103 #[vP a, vP b] w fun e w' => e = .returned (vP (m2 a b)) ∧ Below w.heap.size w w' := by
 obtain ⟨p1, e1⟩ : ∃ x, muN a.A b.A = x := ⟨_, rfl⟩
 obtain ⟨p2, e2⟩ : ∃ x, muN a.B b.B = x := ⟨_, rfl⟩
 obtain ⟨p3, e3⟩ : ∃ x, muN a.A b.B = x := ⟨_, rfl⟩
 obtain ⟨p4, e4⟩ : ∃ x, muN a.B b.A = x := ⟨_, rfl⟩
 have u1 : U64 p1 := by rw [← e1]; exact pm_u _ (jbq _ _)
 have u2 : U64 p2 := by rw [← e2]; exact pm_u _ (jbq _ _)
 have u3 : U64 p3 := by rw [← e3]; exact pm_u _ (jbq _ _)
 have u4 : U64 p4 := by rw [← e4]; exact pm_u _ (jbq _ _)
 have eM : m2 a b = ⟨sbN p1 p2, adN p3 p4⟩ := by unfold m2; rw [e1, e2, e3, e4]
 rw [eM]
 have C1 := jbg a.A b.A ha.1 hb.1
 have C2 := jbg a.B b.B ha.2 hb.2
 have C3 := jbg a.A b.B ha.1 hb.2
 have C4 := jbg a.B b.A ha.2 hb.1
 rw [e1] at C1
 rw [e2] at C2
 rw [e3] at C3
 rw [e4] at C4
 have C5 := jcy p1 p2 u1 u2
 have C6 := jgb p3 p4 u3 u4
 obtain ⟨s1, hs1⟩ : ∃ x, sbN p1 p2 = x := ⟨_, rfl⟩
 obtain ⟨s2, hs2⟩ : ∃ x, adN p3 p4 = x := ⟨_, rfl⟩
 rw [hs1] at C5 ⊢
 rw [hs2] at C6 ⊢
 clear e1 e2 e3 e4 eM hs1 hs2
 obtain ⟨aA, aB⟩ := a
 obtain ⟨bA, bB⟩ := b
 simp only at C1 C2 C3 C4
 go_enter Tryz.func103, Tryz.ntmps103
 go_wp2_with fail
 refine wpOf (fun V => Below w.heap.size w V ∧ w.heap.size + 2 < V.heap.size ∧ (∀ o, V.frozen? ⟨w.heap.size + 1 + 1, o, none⟩ = false) ∧ V.cell? ⟨w.heap.size + 1 + 1, 0, none⟩ = some (.int .u64 0) ∧ V.cell? ⟨w.heap.size + 1 + 1, 1, none⟩ = some (.int .u64 0) ∧ V.cell? ⟨w.heap.size, 0, none⟩ = some (.int .u64 aA) ∧ V.cell? ⟨w.heap.size, 1, none⟩ = some (.int .u64 aB) ∧ V.cell? ⟨w.heap.size + 1, 0, none⟩ = some (.int .u64 bA) ∧ V.cell? ⟨w.heap.size + 1, 1, none⟩ = some (.int .u64 bB)) ⟨by go_grown, by simp [go_sem], by simp [go_sem], by simp [go_sem], by simp [go_sem], by simp [go_sem], by simp [go_sem], by simp [go_sem], by simp [go_sem]⟩ ?_
 rintro V ⟨BV, hz, hf, z0, z1, a0, a1, b0, b1⟩
 have BZ : Hid (_ ∧ _ ∧ _) := ⟨BV, hz, hf⟩
 have c1 := jae (w := V) C1
 have c2 := jae (w := V) C2
 have c3 := jae (w := V) C3
 have c4 := jae (w := V) C4
 have c5 := jae (w := V) C5
 have c6 := jae (w := V) C6
 have k0 := cell_regrown a0
 have k1 := cell_regrown a1
 have k2 := cell_regrown b0
 have k3 := cell_regrown b1
 have lz0 := block_lt_of_cell z0
 have ZZ : Hid (_ ∧ _) := ⟨z0, z1⟩
 clear a0 a1 b0 b1 z0 z1 C1 C2 C3 C4 C5 C6 BV hz hf
 refine jar 23 (by kernel_rfl) (by kernel_rfl) ?_
 simp only [List.take_succ_cons, List.take_zero, List.drop_succ_cons, List.drop_zero]
 iterate 4 (quiet_step (fail))
 quiet_step (exact c1 _ _)
 iterate 4 (quiet_step (fail))
 quiet_step (exact c2 _ _)
 quiet_step (exact c5 _ _)
 iterate 4 (quiet_step (fail))
 quiet_step (exact c3 _ _)
 iterate 4 (quiet_step (fail))
 quiet_step (exact c4 _ _)
 quiet_step (exact c6 _ _)
 quiet_step (fail)
 refine wpQuiet_nil ?_
 intro w8 hw8
 have B8 : Below V.heap.size V w8 := by
  obtain ⟨p, rfl⟩ := hw8
  exact below_regrown _ _ _
 have d0 := (B8.cell (p := ⟨w.heap.size + 1 + 1, 0, none⟩) lz0).trans ZZ.out.1
 have d1 := (B8.cell (p := ⟨w.heap.size + 1 + 1, 1, none⟩) lz0).trans ZZ.out.2
 have df : ∀ o, w8.frozen? ⟨w.heap.size + 1 + 1, o, none⟩ = false := fun o => by
  rw [← BZ.out.2.2 o]
  simp only [World.frozen?, B8.block _ lz0]
 have BW := jaa BZ.out.1 (by have := BZ.out.1.size; omega) B8
 clear hw8 k0 k1 k2 k3 c1 c2 c3 c4 c5 c6
 go_wp2_with fail
 refine bodyPost_ret (v := vP ⟨s1, s2⟩) (by simp [results, Tryz.results103, go_sem, *]) rfl ⟨rfl, ?_⟩
 exact (BW.setCell (p := ⟨w.heap.size + 1 + 1, 0, none⟩) (by show _ ≤ w.heap.size + 1 + 1; omega) _).setCell (p := ⟨w.heap.size + 1 + 1, 1, none⟩) (by show _ ≤ w.heap.size + 1 + 1; omega) _
structure Pb (n : Nat) (x : P2) (W : World) : Prop where
 z : n < W.heap.size
 a : W.cell? ⟨n, 0, none⟩ = some (.int .u64 (x.A : Int))
 b : W.cell? ⟨n, 1, none⟩ = some (.int .u64 (x.B : Int))
 f : ∀ o, W.frozen? ⟨n, o, none⟩ = false
abbrev put2 (n : Nat) (x : P2) (W : World) : World := (W.setCell ⟨n, 0, none⟩ (.int .u64 (x.A : Int))).setCell ⟨n, 1, none⟩ (.int .u64 (x.B : Int))
theorem Pb.new (W : World) (x : P2) (t : Nat) : Pb W.heap.size x (W.alloc (.cells #[.int .u64 (x.A : Int), .int .u64 (x.B : Int)] t)) := ⟨by simp, by simp [go_sem], by simp [go_sem], by simp [go_sem]⟩
theorem Pb.new' (W : World) (x : P2) (t n : Nat) (h : W.heap.size = n) : Pb n x (W.alloc (.cells #[.int .u64 (x.A : Int), .int .u64 (x.B : Int)] t)) := by subst h; exact Pb.new W x t
theorem Pb.below {n : Nat} {x : P2} {W W' : World} (h : Pb n x W) (hb : Below W.heap.size W W') : Pb n x W' :=
 ⟨Nat.lt_of_lt_of_le h.z hb.size, (hb.cell (p := ⟨n, 0, none⟩) h.z).trans h.a, (hb.cell (p := ⟨n, 1, none⟩) h.z).trans h.b, fun o => by rw [← h.f o]; simp only [World.frozen?, hb.block _ h.z]⟩
theorem Pb.over {n : Nat} {x : P2} {W : World} (h : Pb n x W) (y : P2) : Pb n y (put2 n y W) := by
 obtain ⟨z, a, b, f⟩ := h
 exact ⟨by simp [go_sem, *], by simp [go_sem, *], by simp [go_sem, *], by simp [go_sem, *]⟩
theorem Pb.other {n g : Nat} {x : P2} {W : World} (h : Pb n x W) (y : P2) (hg : g ≠ n) : Pb n x (put2 g y W) := by
 obtain ⟨z, a, b, f⟩ := h
 have hg' : n ≠ g := fun e => hg e.symm
 exact ⟨by simp [go_sem, *], by simp [go_sem, *], by simp [go_sem, *], by simp [go_sem, *]⟩
theorem jfd {k g : Nat} {w W : World} (h : Below k w W) (hg : k ≤ g) (y : P2) : Below k w (put2 g y W) := (h.setCell (p := ⟨g, 0, none⟩) hg _).setCell (p := ⟨g, 1, none⟩) hg _
theorem rroot_any (a : Nat) (ha : U64 a) (w : World) :
  Calls Tryz.prog 64 #[.int .u64 a] w fun e w' => e = .returned (.tuple #[.int .u64 (roN a : Nat), .bool (roB a)]) ∧ Below w.heap.size w w' := by
 have hlt := rt_lt a
 have hR := rpow_any a 536870717 ha (by unfold U64; omega)
 rw [show pwN a 536870717 = rtN a from rfl] at hR
 have er : roN a = if muN (rtN a) (rtN a) = a % PM then (if rtN a % 2 = 1 then PM - rtN a else rtN a) else 0 := rfl
 have eb : roB a = decide (muN (rtN a) (rtN a) = a % PM) := rfl
 obtain ⟨x, hx⟩ : ∃ x, rtN a = x := ⟨_, rfl⟩
 rw [hx] at hlt er eb hR
 obtain ⟨s, hs⟩ : ∃ s, muN x x = s := ⟨_, rfl⟩
 have hm : (a : Int) % 2147482867 = ((a % PM : Nat) : Int) := by unfold PM; omega
 obtain ⟨y, hy⟩ : ∃ y, a % PM = y := ⟨_, rfl⟩
 rw [hy] at hm er eb
 have C1 := jbg x x (pm_u _ hlt) (pm_u _ hlt)
 rw [hs] at C1 er eb
 rw [er, eb]
 clear hs hy hx er eb
 by_cases h1 : s = y
 ·subst h1
  rw [if_pos rfl, decide_eq_true rfl]
  by_cases h2 : x % 2 = 1
  ·have hm2 : (x : Int) % 2 = 1 := by omega
   rw [if_pos h2]
   obtain ⟨d, hd⟩ : ∃ d, PM - x = d := ⟨_, rfl⟩
   have hw : IntKind.u64.wrap (2147482867 - (x : Int)) = (d : Int) := by unfold PM at *; rw [IntKind.wrap_u64]; omega
   rw [hd]
   clear hd
   go_enter Tryz.func64, Tryz.ntmps64
   go_wp2_with fail
   refine (hR _).mono ?_
   rintro e w1 ⟨rfl, B1⟩
   go_wp2_with fail
   refine (C1 _).mono ?_
   rintro e w2 ⟨rfl, B2⟩
   go_wp2_with fail
   refine bodyPost_ret (v := .tuple #[.int .u64 (d : Int), .bool true]) (by simp [results, Tryz.results64, go_sem, *]) rfl ⟨rfl, jaa B1 B1.size B2⟩
  ·have hm2 : (x : Int) % 2 = 0 := by omega
   rw [if_neg h2]
   go_enter Tryz.func64, Tryz.ntmps64
   go_wp2_with fail
   refine (hR _).mono ?_
   rintro e w1 ⟨rfl, B1⟩
   go_wp2_with fail
   refine (C1 _).mono ?_
   rintro e w2 ⟨rfl, B2⟩
   go_wp2_with fail
   refine bodyPost_ret (v := .tuple #[.int .u64 (x : Int), .bool true]) (by simp [results, Tryz.results64, go_sem, *]) rfl ⟨rfl, jaa B1 B1.size B2⟩
 ·rw [if_neg h1, decide_eq_false h1]
  have h1' : ¬ (s : Int) = y := by omega
  go_enter Tryz.func64, Tryz.ntmps64
  go_wp2_with fail
  refine (hR _).mono ?_
  rintro e w1 ⟨rfl, B1⟩
  go_wp2_with fail
  refine (C1 _).mono ?_
  rintro e w2 ⟨rfl, B2⟩
  go_wp2_with fail
  refine bodyPost_ret (v := .tuple #[.int .u64 0, .bool false]) (by simp [results, Tryz.results64, go_sem, *]) rfl ⟨rfl, jaa B1 B1.size B2⟩
theorem rpow2_any (a : P2) (n : Nat) (ha : UP a) (hn : U64 n) (w : World) :
  Calls Tryz.prog 105 #[vP a, .int .u64 n] w fun e w' => e = .returned (vP (q2 a n)) ∧ Below w.heap.size w w' := by
 go_enter Tryz.func105, Tryz.ntmps105
 go_wp2_with fail
 refine wpOf (fun V => Below w.heap.size w V ∧ Pb w.heap.size a V ∧ Pb (w.heap.size + 1) z2 V ∧ Pb (w.heap.size + 1 + 1) o2 V) ⟨by go_grown, ?_, ?_, ?_⟩ ?_
 ·exact ((Pb.new w a 111).below ((Below.refl _ _).alloc (Nat.le_refl _) _)).below ((Below.refl _ _).alloc (Nat.le_refl _) _)
 ·exact (Pb.new' _ z2 111 _ (by simp)).below ((Below.refl _ _).alloc (Nat.le_refl _) _)
 ·exact Pb.new' _ o2 111 _ (by simp)
 rintro V ⟨BV, hA, hZ, hO⟩
 go_loopg [6] 64 (fun gk i wr => i = .int .i64 ((gk : Int) - 1) ∧ gk ≤ 64 ∧ Below w.heap.size w wr ∧ Pb w.heap.size a wr ∧ Pb (w.heap.size + 1) z2 wr ∧ Pb (w.heap.size + 1 + 1) (q2 a (n / 2 ^ gk)) wr)
 case atStart =>
  refine ⟨rfl, by omega, BV, hA, hZ, ?_⟩
  have : n / 2 ^ 64 = 0 := Nat.div_eq_of_lt hn
  rw [this, q2_0]
  exact hO
 case round =>
  clear BV hA hZ hO
  obtain ⟨rfl, hg, BW, hA, hZ, hO⟩ := hrel
  cases gk with
  | zero =>
   have e0 : q2 a (n / 2 ^ 0) = q2 a n := by rw [Nat.pow_zero, Nat.div_one]
   rw [e0] at hO
   obtain ⟨x, hx⟩ : ∃ x, q2 a n = x := ⟨_, rfl⟩
   rw [hx] at hO
   obtain ⟨oz, o0, o1, of⟩ := id hO
   obtain ⟨zz, z0, z1, zf⟩ := id hZ
   go_wp2
   refine bodyPost_ret (v := vP x) (by simp [results, Tryz.results105, go_sem, *]) rfl ⟨by rw [hx], ?_⟩
   exact jfd BW (by omega) x
  | succ q =>
   obtain ⟨x, hx⟩ : ∃ x, q2 a (n / 2 ^ (q + 1)) = x := ⟨_, rfl⟩
   obtain ⟨y, hy⟩ : ∃ y, n / 2 ^ q = y := ⟨_, rfl⟩
   have hxU : UP x := by rw [← hx]; exact q2_u _ _
   have hyU : U64 y := by rw [← hy]; exact Nat.lt_of_le_of_lt (Nat.div_le_self _ _) hn
   have st := q2_step a n q
   rw [hx, hy] at st
   obtain ⟨s, hs⟩ : ∃ s, m2 x x = s := ⟨_, rfl⟩
   have hsU : UP s := by rw [← hs]; exact m2_u _ _
   rw [hs] at st
   have hd : (n : Int) / 2 ^ q = y := by rw [← hy]; simp [Int.natCast_ediv, Int.natCast_pow]
   have ha1 := jhb y hyU
   have C1 := jep x x hxU hxU
   rw [hs] at C1
   rw [hx] at hO
   obtain ⟨r, hr⟩ : ∃ r, m2 s a = r := ⟨_, rfl⟩
   have C2 := jep s a hsU ha
   rw [hr] at C2 st
   have HH : Hid (_ ∧ _) := ⟨hy, st⟩
   clear hx hy st hs hr
   obtain ⟨oz, o0, o1, of⟩ := id hO
   have HA : Hid (_ ∧ _ ∧ _ ∧ _) := ⟨hA, hZ, hO, BW⟩
   clear hA hZ hO BW
   by_cases hb : y % 2 = 1
   ·rw [hb] at ha1
    go_wp2_with fail
    refine (C1 _).mono ?_
    rintro e w1 ⟨rfl, B1⟩
    obtain ⟨hA, hZ, hO, BW⟩ := HA.out
    have O1 := hO.below B1
    have A1 := hA.below B1
    obtain ⟨oz1, p0, p1, pf⟩ := id O1
    obtain ⟨az1, a0, a1, af⟩ := id (A1.other s (g := w.heap.size + 1 + 1) (by omega))
    obtain ⟨sz1, s0, s1, sf⟩ := id (O1.over s)
    have HK : Hid (_ ∧ _ ∧ _ ∧ _) := ⟨A1.other s (g := w.heap.size + 1 + 1) (by omega), (hZ.below B1).other s (g := w.heap.size + 1 + 1) (by omega), O1.over s, jfd (jaa BW BW.size B1) (g := w.heap.size + 1 + 1) (by omega) s⟩
    clear hA hZ hO BW O1 A1 B1 o0 o1 of
    go_wp2_with fail
    refine (C2 _).mono ?_
    rintro e w2 ⟨rfl, B2⟩
    obtain ⟨hA, hZ, hO, BW⟩ := HK.out
    have O1 := hO.below B2
    obtain ⟨oz2, b0, b1, bf⟩ := id O1
    go_wp2_with fail
    go_roundg q
    case measure => omega
    case rel =>
     refine ⟨by congr 1, by omega, jfd (jaa BW BW.size B2) (by omega) r, (hA.below B2).other r (by omega), (hZ.below B2).other r (by omega), ?_⟩
     rw [HH.out.1, HH.out.2, if_pos hb]
     exact O1.over r
   ·rw [show y % 2 = 0 by omega] at ha1
    go_wp2_with fail
    refine (C1 _).mono ?_
    rintro e w1 ⟨rfl, B1⟩
    obtain ⟨hA, hZ, hO, BW⟩ := HA.out
    have O1 := hO.below B1
    obtain ⟨oz1, p0, p1, pf⟩ := id O1
    go_wp2_with fail
    go_roundg q
    case measure => omega
    case rel =>
     refine ⟨by congr 1, by omega, jfd (jaa BW BW.size B1) (by omega) s, (hA.below B1).other s (by omega), (hZ.below B1).other s (by omega), ?_⟩
     rw [HH.out.1, HH.out.2, if_neg hb]
     exact O1.over s
end Go.Proofs.YtoddangedbefgabGreatDoor
