/- What the reference's upTo and ofBits do at this translation: for all words and bits, whatever the memory. -/
import Derived.Test.YtgapcjdgakamoaaV19
import Derived.Test.YtgapcjdgakamoaaV7
namespace Go.Proofs.Ytgapcjdgakamoaa
open Go.RowKit Go.Shelf Go.Sort

/-- A number, if it is at most so great; else that. -/
def lid (x most : Int) : Int := if x ≤ most then x else most

set_option maxHeartbeats 1000000 in
theorem rupto_any (n0 n1 n2 n3 z : Int) (hn : Ws n0 n1 n2 n3) (hz : 0 ≤ z ∧ z < 1000) (w : World) :
    Calls Try.prog 69 #[.agg #[.int .u64 n0, .int .u64 n1, .int .u64 n2, .int .u64 n3], .int .u64 z] w fun e w' => e = .returned (.int .i64 (lid (val n0 n1 n2 n3) z)) ∧ Below w.heap.size w w' := by
  have ho : Pt 0 := ⟨by decide, by decide⟩
  have hZ : Ws z 0 0 0 := ⟨⟨hz.1, by omega⟩, ho, ho, ho⟩
  obtain ⟨b, hb⟩ : ∃ b, blw (val z 0 0 0) (val n0 n1 n2 n3) = b := ⟨_, rfl⟩
  have lx := rless_any z 0 0 0 n0 n1 n2 n3 hZ hn
  rw [hb] at lx
  have LX : Hid (∀ w : World, _) := lx
  have HB : Hid (_ = _) := hb
  have hwz : IntKind.i64.wrap z = z := by rw [IntKind.wrap_i64]; omega
  clear lx hb
  go_enter Try.func69, Try.ntmps69
  go_wp2
  refine wpOf (fun W => Below w.heap.size w W ∧ Cw w.heap.size n0 n1 n2 n3 W) ⟨by go_grown, Cw.new _ _ _ _ _ _⟩ ?_
  rintro V ⟨E0, s0⟩
  have k0 := cell_regrown s0.c0
  have k1 := cell_regrown s0.c1
  have k2 := cell_regrown s0.c2
  have k3 := cell_regrown s0.c3
  have qo := inClass (w := V) (rof_any z)
  have ql := inClass (w := V) LX.out
  refine wp_region_quiet_below (by kernel_rfl) (by kernel_rfl) ?_
  quiet_step (fail)
  quiet_step (exact qo _ _)
  quiet_step (fail)
  quiet_step (exact ql _ _)
  refine wpQuiet_nil ?_
  intro w1 hw'
  have hb1 : Below V.heap.size V w1 := by
    obtain ⟨p, rfl⟩ := hw'
    exact below_regrown _ _ _
  have s1 := s0.below hb1
  have E1 := belowStep E0 E0.size hb1
  clear hw' hb1 k0 k1 k2 k3 qo ql s0 E0
  cases b with
  | true =>
    have h : val z 0 0 0 < val n0 n1 n2 n3 := of_decide_eq_true HB.out
    have E : Hid (lid (val n0 n1 n2 n3) z = z) := by
      show _ = _
      unfold lid; rw [if_neg (by rw [val_small] at h; omega)]
    go_wp2
    go_ret
    exact ⟨by rw [E.out]; rfl, E1⟩
  | false =>
    have h : ¬ val z 0 0 0 < val n0 n1 n2 n3 := of_decide_eq_false HB.out
    rw [val_small] at h
    obtain ⟨⟨g00, g01⟩, ⟨g10, g11⟩, ⟨g20, g21⟩, ⟨g30, g31⟩⟩ := id hn
    have hv : val n0 n1 n2 n3 = n0 := by unfold val at h ⊢; omega
    have E : Hid (lid (val n0 n1 n2 n3) z = n0) := by
      show _ = _
      unfold lid; rw [if_pos (by omega)]; exact hv
    have hw0 : IntKind.i64.wrap n0 = n0 := by rw [IntKind.wrap_i64]; omega
    obtain ⟨zz, c0, c1, c2, c3⟩ := id s1
    clear g10 g11 g20 g21 g30 g31 h hv
    go_wp2
    go_ret
    exact ⟨by rw [E.out]; rfl, E1⟩

/-- The number of bits, the lowest first. -/
def sumb (f : Nat → Bool) : Nat → Int
  | 0 => 0
  | k + 1 => sumb f k + (if f k then 2 ^ k else 0)
theorem sumb_bd (f : Nat → Bool) : ∀ n, 0 ≤ sumb f n ∧ sumb f n < 2 ^ n
  | 0 => by simp [sumb]
  | n + 1 => by
    have h1 := sumb_bd f n
    have hp : (0 : Int) < 2 ^ n := Int.pow_pos (by decide)
    simp only [sumb]
    rw [Int.pow_succ]
    split <;> omega
theorem sumb_ext (f g : Nat → Bool) : ∀ n, (∀ j, j < n → f j = g j) → sumb f n = sumb g n
  | 0, _ => rfl
  | n + 1, h => by
    simp only [sumb]
    rw [sumb_ext f g n (fun j hj => h j (by omega)), h n (by omega)]
theorem sumb_bits (x : Int) : ∀ n, sumb (bitAt x) n = x % 2 ^ n
  | 0 => by simp [sumb]
  | n + 1 => by
    simp only [sumb]
    rw [sumb_bits x n, Int.pow_succ, emod_two x (2 ^ n) 2 (Int.pow_pos (by decide)) (by decide)]
    unfold bitAt
    have h : x / 2 ^ n % 2 = 0 ∨ x / 2 ^ n % 2 = 1 := by omega
    rcases h with h | h <;> simp [h]

theorem or_bit (x : Int) (e : Nat) (hx : 0 ≤ x ∧ x < 2 ^ e) (he : e < 64) : bits .or .u64 x (2 ^ e) = x + 2 ^ e ∧ Pt (x + 2 ^ e) ∧ IntKind.u64.wrap (2 ^ e) = 2 ^ e := by
  have hp : (0 : Int) < 2 ^ e := Int.pow_pos (by decide)
  have h6 : (2 : Int) ^ e * 2 * 2 ^ (63 - e) = 18446744073709551616 := by
    rw [show (2 : Int) ^ e * 2 = 2 ^ (e + 1) from (Int.pow_succ _ _).symm, ← Int.pow_add, show e + 1 + (63 - e) = 64 by omega]; rfl
  have h7 : (2 : Int) ^ e * 2 * 1 ≤ 2 ^ e * 2 * 2 ^ (63 - e) := Int.mul_le_mul_of_nonneg_left (by have : (0 : Int) < 2 ^ (63 - e) := Int.pow_pos (by decide); omega) (by omega)
  obtain ⟨X, rfl⟩ := Int.eq_ofNat_of_zero_le hx.1
  have hX : X < 2 ^ e := by have := hx.2; rw [pw_cast] at this; omega
  have hw : IntKind.u64.wrap (2 ^ e) = 2 ^ e := by rw [IntKind.wrap_u64]; omega
  refine ⟨?_, ⟨by omega, by omega⟩, hw⟩
  have hb : (2 : Int) ^ e < 18446744073709551616 := by omega
  rw [pw_cast] at hb ⊢
  rw [u64_or_nat _ _ (by omega) (by omega), Nat.or_comm, nat_join e _ _ (Nat.mod_self _) hX]
  omega

set_option maxRecDepth 20000 in
set_option maxHeartbeats 2000000 in
theorem rofbits_any (f : Nat → Bool) (w : World) :
    Calls Try.prog 70 #[.agg (row f).toArray] w fun e w' =>
      ∃ r0 r1 r2 r3 : Int, e = .returned (.agg #[.int .u64 r0, .int .u64 r1, .int .u64 r2, .int .u64 r3]) ∧ Ws r0 r1 r2 r3 ∧ Hid (val r0 r1 r2 r3 = sumb f 256) ∧ Below w.heap.size w w' := by
  have ho : Pt 0 := ⟨by decide, by decide⟩
  go_enter Try.func70, Try.ntmps70
  go_wp2
  go_loopg [4] 256 (fun gk i wr => ∃ k : Nat, ∃ o0 o1 o2 o3 : Int, k + gk = 256 ∧ i = .int .i64 k ∧ Below w.heap.size w wr ∧ Fw w.heap.size 256 (fun j => .bool (f j)) wr ∧ Rw (w.heap.size + 1) 0 0 0 0 wr ∧ Rw (w.heap.size + 1 + 1) o0 o1 o2 o3 wr ∧ Ws o0 o1 o2 o3 ∧ Hid (val o0 o1 o2 o3 = sumb f k))
  case atStart =>
    refine ⟨0, 0, 0, 0, 0, rfl, rfl, by go_grown, ?_, ?_, ?_, ⟨ho, ho, ho, ho⟩, rfl⟩
    · exact Fw.alloc (Fw.alloc (Fw.new w 256 (fun j => .bool (f j)) 43) _) _
    · exact ⟨⟨by (try simp) <;> omega, by simp [go_sem], by simp [go_sem], by simp [go_sem], by simp [go_sem]⟩, fun o => by simp [go_sem]⟩
    · exact ⟨⟨by (try simp) <;> omega, by simp [go_sem], by simp [go_sem], by simp [go_sem], by simp [go_sem]⟩, fun o => by simp [go_sem]⟩
  case round =>
    obtain ⟨k, o0, o1, o2, o3, hk, rfl, EW, CF, CZ, CO, hO, hH⟩ := hrel
    by_cases hlt : k < 256
    · obtain ⟨q, hqk, hq4⟩ : ∃ q : Nat, k / 64 = q ∧ q < 4 := ⟨k / 64, rfl, by omega⟩
      obtain ⟨e, hek, he64⟩ : ∃ e : Nat, k % 64 = e ∧ e < 64 := ⟨k % 64, rfl, by omega⟩
      have hq : (k : Int).tdiv 64 = q := by rw [Int.tdiv_eq_ediv_of_nonneg (by omega)]; omega
      have hr : (k : Int).tmod 64 = e := by rw [Int.tmod_eq_emod_of_nonneg (by omega)]; omega
      have hwq : IntKind.i64.wrap (q : Int) = q := by rw [IntKind.wrap_i64]; omega
      have hwe : IntKind.i64.wrap (e : Int) = e := by rw [IntKind.wrap_i64]; omega
      have q4 : (q : Int) < 4 := by omega
      have q0 : (0 : Int) ≤ q := by omega
      have e64 : (e : Int) < 64 := by omega
      have e0 : (0 : Int) ≤ e := by omega
      have hkl : (k : Int) < 256 := by omega
      obtain ⟨b, hb⟩ : ∃ b, f k = b := ⟨_, rfl⟩
      have lc := CF.c k hlt
      rw [hb] at lc
      have HB : Hid (_ = _) := hb
      clear hb
      cases b with
      | false =>
        go_wp2
        go_roundg (gk - 1)
        case measure => omega
        case rel =>
          refine ⟨k + 1, o0, o1, o2, o3, by omega, rfl, EW, CF, CZ, CO, hO, ?_⟩
          show _ = _
          rw [hH.out]; simp only [sumb, HB.out]; simp
      | true =>
        have hvk : val o0 o1 o2 o3 < 2 ^ (64 * q + e) := by
          rw [hH.out, show 64 * q + e = k by omega]
          exact (sumb_bd f k).2
        have hor := or_bit (nth o0 o1 o2 o3 q) e ⟨(nth_pt o0 o1 o2 o3 hO q).1, part_low o0 o1 o2 o3 hO q e hq4 hvk⟩ he64
        have oc := CO.w.nth q hq4
        obtain ⟨x, hx⟩ : ∃ x, nth o0 o1 o2 o3 q = x := ⟨_, rfl⟩
        rw [hx] at oc hor
        obtain ⟨hor1, hor2, hor3⟩ := hor
        have hor4 : IntKind.u64.wrap (1 * 2 ^ e) = 2 ^ e := by rw [Int.one_mul]; exact hor3
        have HE : Hid (64 * q + e = k) := (show 64 * q + e = k by omega)
        clear hqk hek
        go_wp2
        have kc := cell_regrown oc
        refine region_tail 11 (by kernel_rfl) (by kernel_rfl) ?_
        simp only [List.take_succ_cons, List.take_zero, List.drop_succ_cons, List.drop_zero]
        iterate 11 (quiet_step (fail))
        refine wpQuiet_nil ?_
        intro w8 hw8
        have hb8 : Below wr.heap.size wr w8 := by
          obtain ⟨p, rfl⟩ := hw8
          exact below_regrown _ _ _
        have CO8 := CO.below hb8
        have CZ8 := CZ.below hb8
        have CF8 := CF.below hb8
        have E8 := belowStep EW EW.size hb8
        have oc8 := CO8.w.nth q hq4
        rw [hx] at oc8
        have uf := CO8.f
        have uz := CO8.w.z
        clear hw8 hb8 kc oc CO CZ EW CF
        obtain ⟨t0, t1, t2, t3, hv1, hv3, hv4⟩ := put_part CO8 hO q hq4 (2 ^ e) (by rw [hx]; exact hor2)
        rw [hx] at hv1
        have HV : Hid (Rw _ _ _ _ _ _) := hv1
        clear hv1
        go_wp2
        go_roundg (gk - 1)
        case measure => omega
        case rel =>
          refine ⟨k + 1, t0, t1, t2, t3, by omega, rfl, by go_grown, CF8.setCell _ (by dsimp only; omega) _, CZ8.setCell _ (by dsimp only; omega) _, HV.out, hv3, ?_⟩
          show _ = _
          rw [hv4, hH.out]; simp only [sumb, HB.out, if_true]
          rw [← Int.pow_add, show e + 64 * q = k by have := HE.out; omega]
    · have hkm : k = 256 := by omega
      subst hkm
      obtain ⟨⟨z, c0, c1, c2, c3⟩, cf⟩ := id CZ
      obtain ⟨⟨oz, p0, p1, p2, p3⟩, pf⟩ := id CO
      clear hlt
      go_wp2
      refine bodyPost_ret (v := .agg #[.int .u64 o0, .int .u64 o1, .int .u64 o2, .int .u64 o3]) (by simp [results, Try.results70, go_sem, *]) rfl ⟨o0, o1, o2, o3, rfl, hO, hH, ?_⟩
      go_grown
end Go.Proofs.Ytgapcjdgakamoaa
