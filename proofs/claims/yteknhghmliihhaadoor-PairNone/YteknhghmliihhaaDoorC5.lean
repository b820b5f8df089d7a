/- What the reference's On, Many, Times, InGroup, Add, Neg do. No condition. -/
import Derived.Test.YteknhghmliihhaaDoorC4
import Derived.BigQuiet
namespace Go.Proofs.YteknhghmliihhaaDoor
open Go.RowKit Go.Shelf Go.Sort

set_option maxRecDepth 20000 in
set_option maxHeartbeats 4000000 in
theorem ron_any (p : Pt) (hp : UT p) (w : World) :
    Calls Tryd.prog 19 #[vT p] w fun e w' => e = .returned (.bool (onN p)) ∧ Below w.heap.size w w' := by
  have eM := r_on p
  rw [← eM]
  by_cases hi : p.I = true
  · rw [if_pos hi]
    obtain ⟨pX, pY, pI⟩ := p
    simp only at hi
    subst hi
    simp only [vT]
    clear eM
    by_cases h1 : pX = 0
    · subst h1
      have eb : ((pY : Int) == 0) = decide (pY = 0) := by
        by_cases e : pY = 0
        · subst e; simp
        · rw [decide_eq_false e, beq_eq_false_iff_ne]; omega
      go_enter Tryd.func19, Tryd.ntmps19
      go_wp2_with fail
      go_ret
      exact ⟨by simp, by go_grown⟩
    · have h1' : ((pX : Int) == 0) = false := by rw [beq_eq_false_iff_ne]; omega
      have h1'' : ¬ (pX : Int) = 0 := by omega
      rw [decide_eq_false h1]
      go_enter Tryd.func19, Tryd.ntmps19
      go_wp2_with fail
      go_ret
      exact ⟨by simp, by go_grown⟩
  rw [if_neg hi]
  have hi : p.I = false := by simpa using hi
  have C1 := rmul_any p.Y p.Y hp.2 hp.2
  have C2 := side_any p.X hp.1
  rw [show adN (muN p.X (muN p.X p.X)) p.X = sqN p.X by unfold sqN; rw [mu_comm p.X (muN p.X p.X)]]
  obtain ⟨a, ha⟩ : ∃ a, muN p.Y p.Y = a := ⟨_, rfl⟩
  obtain ⟨b, hb⟩ : ∃ b, sqN p.X = b := ⟨_, rfl⟩
  rw [ha] at C1 ⊢
  rw [hb] at C2 ⊢
  clear ha hb eM
  obtain ⟨pX, pY, pI⟩ := p
  simp only at hi
  subst hi
  simp only [vT] at C1 C2 ⊢
  unfold PM
  have eb : ((a : Int) == (b : Int)) = decide (a = b) := by
    by_cases e : a = b
    · subst e; simp
    · rw [decide_eq_false e, beq_eq_false_iff_ne]; omega
  by_cases h1 : pX < 2147482867
  · have h1' : decide ((pX : Int) < 2147482867) = true := decide_eq_true (by omega)
    by_cases h2 : pY < 2147482867
    · have h2' : decide ((pY : Int) < 2147482867) = true := decide_eq_true (by omega)
      rw [decide_eq_true h1, decide_eq_true h2]
      go_enter Tryd.func19, Tryd.ntmps19
      go_wp2_with fail
      refine wpOf (fun V => Below w.heap.size w V ∧ Tb w.heap.size ⟨pX, pY, false⟩ V) ⟨by go_grown, Tb.new' w ⟨pX, pY, false⟩ 24 _ rfl⟩ ?_
      rintro V ⟨BV, hA⟩
      have c1 := inClass (w := V) C1
      have c2 := inClass (w := V) C2
      have k0 := cell_regrown hA.a
      have k1 := cell_regrown hA.b
      have HV : Hid (_ ∧ _) := ⟨BV, BV⟩
      clear hA C1 C2 BV
      refine wp_region_quiet_below (by kernel_rfl) (by kernel_rfl) ?_
      iterate 13 (quiet_step (fail))
      quiet_step (exact c1 _ _)
      iterate 2 (quiet_step (fail))
      quiet_step (exact c2 _ _)
      iterate 3 (quiet_step (fail))
      refine wpQuiet_nil ?_
      intro w8 hw8
      have B8 : Below V.heap.size V w8 := by
        obtain ⟨p, rfl⟩ := hw8
        exact below_regrown _ _ _
      have BW := belowStep HV.out.1 HV.out.1.size B8
      clear hw8 k0 k1 c1 c2
      go_wp2_with fail
      go_ret
      exact ⟨by simp, BW⟩
    · have h2' : decide ((pY : Int) < 2147482867) = false := decide_eq_false (by omega)
      rw [decide_eq_false h2]
      go_enter Tryd.func19, Tryd.ntmps19
      go_wp2_with fail
      refine wpOf (fun V => Below w.heap.size w V ∧ Tb w.heap.size ⟨pX, pY, false⟩ V) ⟨by go_grown, Tb.new' w ⟨pX, pY, false⟩ 24 _ rfl⟩ ?_
      rintro V ⟨BV, hA⟩
      have c1 := inClass (w := V) C1
      have c2 := inClass (w := V) C2
      have k0 := cell_regrown hA.a
      have k1 := cell_regrown hA.b
      have HV : Hid (_ ∧ _) := ⟨BV, BV⟩
      clear hA C1 C2 BV
      refine wp_region_quiet_below (by kernel_rfl) (by kernel_rfl) ?_
      repeat (go_big_quiet_step (fail))
      refine wpQuiet_nil ?_
      intro w8 hw8
      have B8 : Below V.heap.size V w8 := by
        obtain ⟨p, rfl⟩ := hw8
        exact below_regrown _ _ _
      have BW := belowStep HV.out.1 HV.out.1.size B8
      clear hw8 k0 k1 c1 c2
      go_wp2_with fail
      go_ret
      exact ⟨by simp, BW⟩
  · have h1' : decide ((pX : Int) < 2147482867) = false := decide_eq_false (by omega)
    rw [decide_eq_false h1]
    go_enter Tryd.func19, Tryd.ntmps19
    go_wp2_with fail
    refine wpOf (fun V => Below w.heap.size w V ∧ Tb w.heap.size ⟨pX, pY, false⟩ V) ⟨by go_grown, Tb.new' w ⟨pX, pY, false⟩ 24 _ rfl⟩ ?_
    rintro V ⟨BV, hA⟩
    have c1 := inClass (w := V) C1
    have c2 := inClass (w := V) C2
    have k0 := cell_regrown hA.a
    have k1 := cell_regrown hA.b
    have HV : Hid (_ ∧ _) := ⟨BV, BV⟩
    clear hA C1 C2 BV
    refine wp_region_quiet_below (by kernel_rfl) (by kernel_rfl) ?_
    repeat (go_big_quiet_step (fail))
    refine wpQuiet_nil ?_
    intro w8 hw8
    have B8 : Below V.heap.size V w8 := by
      obtain ⟨p, rfl⟩ := hw8
      exact below_regrown _ _ _
    have BW := belowStep HV.out.1 HV.out.1.size B8
    clear hw8 k0 k1 c1 c2
    go_wp2_with fail
    go_ret
    exact ⟨by simp, BW⟩

set_option maxRecDepth 20000 in
set_option maxHeartbeats 4000000 in
theorem many_any (n : Nat) (hn : U64 n) (p : Pt) (hp : Wl p) (w : World) :
    Calls Tryd.prog 29 #[.int .u64 n, vT p] w fun e w' => e = .returned (vT (tmN p n)) ∧ Below w.heap.size w w' := by
  go_enter Tryd.func29, Tryd.ntmps29
  go_wp2_with fail
  refine callsOf (fun V => Below w.heap.size w V ∧ Tb w.heap.size p V ∧ Tb (w.heap.size + 1) oP V) ⟨by go_grown, (Tb.new' w p 24 _ rfl).alloc _, Tb.new' _ oP 24 _ (by simp)⟩ ?_
  rintro V ⟨BV, hA, hO⟩
  refine (none_any _).mono ?_
  rintro e w1 ⟨rfl, B1⟩
  have A1 := hA.below B1
  have O1 := hO.below B1
  have BW := belowStep BV BV.size B1
  clear hA hO BV B1 V
  go_wp2_with fail
  have hzm := O1.z
  have N1 := Tb.new' w1 iN 24 _ rfl
  have A2 := A1.alloc (.cells #[.int .u64 (iN.X : Int), .int .u64 (iN.Y : Int), .bool iN.I] 24)
  have O2 := O1.alloc (.cells #[.int .u64 (iN.X : Int), .int .u64 (iN.Y : Int), .bool iN.I] 24)
  have BW2 := BW.alloc BW.size (.cells #[.int .u64 (iN.X : Int), .int .u64 (iN.Y : Int), .bool iN.I] 24)
  clear A1 O1 BW
  obtain ⟨m, hm⟩ : ∃ m, w1.heap.size = m := ⟨_, rfl⟩
  rw [hm] at N1 hzm ⊢
  refine wpOf (fun W => Below w.heap.size w W ∧ Tb w.heap.size p W ∧ Tb (w.heap.size + 1) oP W ∧ Tb m iN W) ⟨BW2, A2, O2, N1⟩ ?_
  rintro W0 ⟨BW0, A0, O0, N0⟩
  clear BW2 A2 O2 N1 hm w1
  obtain ⟨z, hz⟩ : ∃ c, w.heap.size = c := ⟨_, rfl⟩
  rw [hz] at BW0 A0 O0 hzm ⊢
  have HZ : Hid (w.heap.size = z) := hz
  clear hz
  go_loopg [6] 64 (fun gk i wr => i = .int .i64 ((gk : Int) - 1) ∧ gk ≤ 64 ∧ Below z w wr ∧ Tb z p wr ∧ Tb (z + 1) oP wr ∧ Tb m (tmN p (n / 2 ^ gk)) wr)
  case atStart =>
    refine ⟨rfl, by omega, BW0, A0, O0, ?_⟩
    have : n / 2 ^ 64 = 0 := Nat.div_eq_of_lt hn
    rw [this, tm_0]
    exact N0
  case round =>
    clear BW0 A0 O0 N0
    obtain ⟨rfl, hg, BW, hA, hO, hN⟩ := hrel
    cases gk with
    | zero =>
      have e0 : tmN p (n / 2 ^ 0) = tmN p n := by rw [Nat.pow_zero, Nat.div_one]
      rw [e0] at hN
      obtain ⟨v, hv⟩ : ∃ v, tmN p n = v := ⟨_, rfl⟩
      have HVV : Hid (tmN p n = v) := hv
      rw [hv] at hN
      clear hv e0 hA
      have ⟨nz, na, nb, nc, nf⟩ := hN
      have ⟨oz, oa, ob, oc, of⟩ := hO
      go_wp2_with fail
      refine bodyPost_ret (v := vT v) (by simp [results, Tryd.results29, go_sem, *]) rfl ⟨by rw [HVV.out], ?_⟩
      rw [HZ.out]
      exact below_put3 (y := v) BW (by omega)
    | succ q =>
      have wx := wl_tm p hp (n / 2 ^ (q + 1))
      obtain ⟨x, hx⟩ : ∃ x, tmN p (n / 2 ^ (q + 1)) = x := ⟨_, rfl⟩
      obtain ⟨y, hy⟩ : ∃ y, n / 2 ^ q = y := ⟨_, rfl⟩
      have hyU : U64 y := by rw [← hy]; exact Nat.lt_of_le_of_lt (Nat.div_le_self _ _) hn
      have st := tm_step p n q
      rw [hx, hy] at st
      rw [hx] at hN wx
      have ws := wl_sm wx wx
      have C1 := plus_any x x wx wx
      obtain ⟨s, hs⟩ : ∃ s, smN x x = s := ⟨_, rfl⟩
      rw [hs] at st ws C1
      have hd : (n : Int) / 2 ^ q = y := by rw [← hy]; simp [Int.natCast_ediv, Int.natCast_pow]
      have ha1 := and_one y hyU
      have HH : Hid (_ ∧ _) := ⟨hy, st⟩
      clear hx hy st hs
      have ⟨nz, na, nb, nc, nf⟩ := hN
      go_wp2_with fail
      refine (C1 _).mono ?_
      rintro e w2 ⟨rfl, B2⟩
      have A2 := (hA.below B2).other (g := m) s (by omega)
      have O2 := (hO.below B2).other (g := m) s (by omega)
      have N2 := (hN.below B2)
      have S2 := N2.over s
      have BW2 := below_put3 (belowStep BW (by have := hA.z; omega) B2) (g := m) (by omega) s
      have HS : Hid (_ ∧ _ ∧ _ ∧ _) := ⟨BW2, A2, O2, S2⟩
      obtain ⟨xz, xa, xb, xc, xf⟩ := N2
      obtain ⟨pz, pa, pb, pc, pf⟩ := hA.below B2
      have hne : z ≠ m := by omega
      have hne' : m ≠ z := by omega
      clear A2 O2 S2 BW2 nz na nb nc nf hA hO hN BW B2
      by_cases hb : y % 2 = 1
      · rw [hb] at ha1
        go_wp2_with fail
        refine (plus_any s p ws hp _).mono ?_
        rintro e w4 ⟨rfl, B4⟩
        obtain ⟨BW2, A2, O2, S2⟩ := HS.out
        have hz2 := A2.z
        obtain ⟨u, hu⟩ : ∃ u, smN s p = u := ⟨_, rfl⟩
        rw [hu]
        have A4 := (A2.below B4).other (g := m) u (by omega)
        have O4 := (O2.below B4).other (g := m) u (by omega)
        have N4 := (S2.below B4)
        have S4 := N4.over u
        have BW4 := below_put3 (belowStep BW2 (by omega) B4) (g := m) (by omega) u
        have HS4 : Hid (_ ∧ _ ∧ _ ∧ _) := ⟨BW4, A4, O4, S4⟩
        obtain ⟨yz, ya, yb, yc, yf⟩ := N4
        clear A2 O2 S2 BW2 HS A4 O4 S4 BW4 B4 xz xa xb xc xf pz pa pb pc pf
        go_wp2_with fail
        obtain ⟨BW4, A4, O4, S4⟩ := HS4.out
        go_roundg q
        case measure => omega
        case rel =>
          refine ⟨by congr 1, by omega, BW4, A4, O4, ?_⟩
          rw [HH.out.1, HH.out.2, if_pos hb, hu]
          exact S4
      · rw [show y % 2 = 0 by omega] at ha1
        go_wp2_with fail
        obtain ⟨BW2, A2, O2, S2⟩ := HS.out
        go_roundg q
        case measure => omega
        case rel =>
          refine ⟨by congr 1, by omega, BW2, A2, O2, ?_⟩
          rw [HH.out.1, HH.out.2, if_neg hb]
          exact S2
end Go.Proofs.YteknhghmliihhaaDoor
