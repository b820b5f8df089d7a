/- Lemmas: The law HeadRoots, walked. Unlike headers have unlike roots, or two texts clash; all texts that are summed up for a header. The law HeadApart, walked. -/
import Derived.Test.YtmefanagpkbjeaaDoorM1
import Derived.Test.YtmefanagpkbjeaaDoorM10
import Derived.Test.YtmefanagpkbjeaaDoorM11
import Derived.Test.YtmefanagpkbjeaaDoorM12
import Derived.Test.YtmefanagpkbjeaaDoorM13
import Derived.Test.YtmefanagpkbjeaaDoorM14
import Derived.Test.YtmefanagpkbjeaaDoorM15
import Derived.Test.YtmefanagpkbjeaaDoorM16
import Derived.Test.YtmefanagpkbjeaaDoorM17
import Derived.Test.YtmefanagpkbjeaaDoorM18
import Derived.Test.YtmefanagpkbjeaaDoorM19
import Derived.Test.YtmefanagpkbjeaaDoorM2
import Derived.Test.YtmefanagpkbjeaaDoorM20
import Derived.Test.YtmefanagpkbjeaaDoorM21
import Derived.Test.YtmefanagpkbjeaaDoorM22
import Derived.Test.YtmefanagpkbjeaaDoorM23
import Derived.Test.YtmefanagpkbjeaaDoorM24
import Derived.Test.YtmefanagpkbjeaaDoorM25
import Derived.Test.YtmefanagpkbjeaaDoorM26
import Derived.Test.YtmefanagpkbjeaaDoorM27
import Derived.Test.YtmefanagpkbjeaaDoorM28
import Derived.Test.YtmefanagpkbjeaaDoorM29
import Derived.Test.YtmefanagpkbjeaaDoorM3
import Derived.Test.YtmefanagpkbjeaaDoorM4
import Derived.Test.YtmefanagpkbjeaaDoorM6
import Derived.Test.YtmefanagpkbjeaaDoorM7
import Derived.Test.YtmefanagpkbjeaaDoorM8
import Derived.Test.YtmefanagpkbjeaaDoorM9
import Derived.Test.YtmefanagpkbjeaaDoorRows
import Derived.BigQuiet
namespace Go.Proofs.YtmefanagpkbjeaaDoor
open Go.RowKit Go.Shelf Go.Sort

theorem two_boxesU (w : World) (o1 o2 : Obj) : Below w.heap.size w ((w.alloc o1).alloc o2) ∧ ((w.alloc o1).alloc o2).heap[w.heap.size]? = some o1 ∧ ((w.alloc o1).alloc o2).heap[w.heap.size + 1]? = some o2 := by
  refine ⟨((Below.refl _ w).alloc (Nat.le_refl _) _).alloc (by simp) _, (Lib.alloc_old _ _ _ (by simp)).trans (World.alloc_heap_new w _), ?_⟩
  have := World.alloc_heap_new (w.alloc o1) o2
  rwa [World.size_alloc] at this
set_option maxRecDepth 100000 in
set_option maxHeartbeats 4000000 in
theorem headroots_any (s u m : Int) (p t b ea ra : ByteArray) (br : List ByteArray) (a : Option Addr) (c : Nat) (ks : List ByteArray) (a2 : Option Addr) (c2 : Nat) (sm : ByteArray) (w : World) (hl : Laid w) (hp : slS w.heap.size w a br) (hp2 : slS w.heap.size w a2 ks) :
    Calls Tryd.prog 3 #[.agg #[.int .u64 s, .int .u64 u, .string p, .string t, .string b, .string ea, .string ra, .int .u64 m, .slice a br.length c], .agg #[.slice a2 ks.length c2, .string sm]] w fun e w' => e = .returned (.bool true) ∧ Below w.heap.size w w' := by
  have KS := fun (W : World) (hB : Below w.heap.size w W) => shown13_any W (hl.below hB)
  have K1 := fun (W : World) (hB : Below w.heap.size w W) => hroot_any s u p t b W (hl.below hB)
  have K2 := fun (W : World) (hB : Below w.heap.size w W) => rhroot_any s u p t b W
  have K3 := fun (W : World) (hB : Below w.heap.size w W) => xroot_any ea ra m W (hl.below hB)
  have K4 := fun (W : World) (hB : Below w.heap.size w W) => rxroot_any ea ra m W
  have K5 := fun (W : World) (hB : Below w.heap.size w W) => hcomm_any ks a2 c2 sm w.heap.size W (hl.below hB) hB.size (slS_below hB hp2)
  have K6 := fun (W : World) (hB : Below w.heap.size w W) => rhcomm_any ks a2 c2 sm w.heap.size W hB.size (slS_below hB hp2)
  have K7 := fun (W : World) (hB : Below w.heap.size w W) => holds_any s u m p t b ea ra br a c w.heap.size W (hl.below hB) hB.size (slS_below hB hp)
  have K8 := fun (W : World) (hB : Below w.heap.size w W) => rholds_any s u m p t b ea ra br a c w.heap.size W hB.size (slS_below hB hp)
  obtain ⟨N, hN⟩ : ∃ N, br.length = N := ⟨_, rfl⟩
  obtain ⟨M, hM⟩ : ∃ M, ks.length = M := ⟨_, rfl⟩
  rw [hN] at K7 K8
  rw [hM] at K5 K6
  rw [hN, hM]
  obtain ⟨v1, hv1⟩ : ∃ v, rtS (hdC s u p t b) 3 = v := ⟨_, rfl⟩
  obtain ⟨e1, he1⟩ : ∃ v, rtE (hdC s u p t b) 3 = v := ⟨_, rfl⟩
  obtain ⟨v2, hv2⟩ : ∃ v, rtS (exC ea ra m) 2 = v := ⟨_, rfl⟩
  obtain ⟨e2, he2⟩ : ∃ v, rtE (exC ea ra m) 2 = v := ⟨_, rfl⟩
  obtain ⟨v3, hv3⟩ : ∃ v, cmS ks sm = v := ⟨_, rfl⟩
  obtain ⟨e3, he3⟩ : ∃ v, cmE ks sm = v := ⟨_, rfl⟩
  obtain ⟨ho, hho⟩ : ∃ v, hoB s u m p t b ea ra br = v := ⟨_, rfl⟩
  rw [hv1, he1] at K1 K2
  rw [hv2, he2] at K3 K4
  rw [hv3, he3] at K5 K6
  rw [hho] at K7 K8
  clear hv1 he1 hv2 he2 hv3 he3 hho hN hM hp hp2
  obtain ⟨A0, h0, h1⟩ := two_boxesU w (.cells #[.int .u64 s, .int .u64 u, .string p, .string t, .string b, .string ea, .string ra, .int .u64 m, .slice a N c] 29) (.cells #[.slice a2 M c2, .string sm] 31)
  obtain ⟨z, hz⟩ : ∃ z, w.heap.size = z := ⟨_, rfl⟩
  have HZ : Hid (w.heap.size = z) := hz
  obtain ⟨w1, hw1⟩ : ∃ W, (w.alloc (.cells #[.int .u64 s, .int .u64 u, .string p, .string t, .string b, .string ea, .string ra, .int .u64 m, .slice a N c] 29)).alloc (.cells #[.slice a2 M c2, .string sm] 31) = W := ⟨_, rfl⟩
  have hsz1 : w1.heap.size = z + 2 := by rw [← hw1, ← hz]; simp
  rw [hw1] at A0 h0 h1
  rw [hz] at A0 h0 h1 KS K1 K2 K3 K4 K5 K6 K7 K8
  have cs : ∀ W : World, Below w1.heap.size w1 W → Hid (z < W.heap.size ∧ z + 1 < W.heap.size ∧ W.heap[z]? = some (.cells #[.int .u64 s, .int .u64 u, .string p, .string t, .string b, .string ea, .string ra, .int .u64 m, .slice a N c] 29 (0, 0)) ∧ W.heap[z + 1]? = some (.cells #[.slice a2 M c2, .string sm] 31 (0, 0))) := fun W hB => ⟨by have := hB.size; omega, by have := hB.size; omega, (hB.block z (by omega)).trans h0, (hB.block (z + 1) (by omega)).trans h1⟩
  have HC : Hid _ := cs
  go_enter Tryd.func3, Tryd.ntmps3
  clear h0 h1 cs
  have Cw1 : Below w1.heap.size w1 w1 := Below.refl _ _
  go_wp2_with fail
  refine (KS _ A0).mono ?_
  rintro e w2 ⟨rfl, Bw2⟩
  have Xw2 := belowStep A0 (by have := HZ.out; have := Cw1.size; omega) Bw2
  have Cw2 := Cw1.trans (Bw2.mono Cw1.size)
  clear KS Bw2 Cw1 hw1
  have x0 : w2.cell? ⟨z, 0, none⟩ = some (.int .u64 s) := by rw [Lib.cell_of_heap (HC.out w2 Cw2).out.2.2.1]; rfl
  have x1 : w2.cell? ⟨z, 1, none⟩ = some (.int .u64 u) := by rw [Lib.cell_of_heap (HC.out w2 Cw2).out.2.2.1]; rfl
  have x2 : w2.cell? ⟨z, 2, none⟩ = some (.string p) := by rw [Lib.cell_of_heap (HC.out w2 Cw2).out.2.2.1]; rfl
  have x3 : w2.cell? ⟨z, 3, none⟩ = some (.string t) := by rw [Lib.cell_of_heap (HC.out w2 Cw2).out.2.2.1]; rfl
  have x4 : w2.cell? ⟨z, 4, none⟩ = some (.string b) := by rw [Lib.cell_of_heap (HC.out w2 Cw2).out.2.2.1]; rfl
  go_wp2_with fail
  refine (K1 _ Xw2).mono ?_
  rintro e w3 ⟨rfl, Bw3⟩
  have Xw3 := belowStep Xw2 (by have := HZ.out; have := Cw2.size; omega) Bw3
  have Cw3 := Cw2.trans (Bw3.mono Cw2.size)
  clear K1 x0 x1 x2 x3 x4 Bw3 Cw2 Xw2
  have x0 : w3.cell? ⟨z, 0, none⟩ = some (.int .u64 s) := by rw [Lib.cell_of_heap (HC.out w3 Cw3).out.2.2.1]; rfl
  have x1 : w3.cell? ⟨z, 1, none⟩ = some (.int .u64 u) := by rw [Lib.cell_of_heap (HC.out w3 Cw3).out.2.2.1]; rfl
  have x2 : w3.cell? ⟨z, 2, none⟩ = some (.string p) := by rw [Lib.cell_of_heap (HC.out w3 Cw3).out.2.2.1]; rfl
  have x3 : w3.cell? ⟨z, 3, none⟩ = some (.string t) := by rw [Lib.cell_of_heap (HC.out w3 Cw3).out.2.2.1]; rfl
  have x4 : w3.cell? ⟨z, 4, none⟩ = some (.string b) := by rw [Lib.cell_of_heap (HC.out w3 Cw3).out.2.2.1]; rfl
  go_wp2_with fail
  refine (K2 _ Xw3).mono ?_
  rintro e w4 ⟨rfl, Bw4⟩
  have Xw4 := belowStep Xw3 (by have := HZ.out; have := Cw3.size; omega) Bw4
  have Cw4 := Cw3.trans (Bw4.mono Cw3.size)
  clear K2 x0 x1 x2 x3 x4 Bw4 Cw3 Xw3
  have x5 : w4.cell? ⟨z, 5, none⟩ = some (.string ea) := by rw [Lib.cell_of_heap (HC.out w4 Cw4).out.2.2.1]; rfl
  have x6 : w4.cell? ⟨z, 6, none⟩ = some (.string ra) := by rw [Lib.cell_of_heap (HC.out w4 Cw4).out.2.2.1]; rfl
  have x7 : w4.cell? ⟨z, 7, none⟩ = some (.int .u64 m) := by rw [Lib.cell_of_heap (HC.out w4 Cw4).out.2.2.1]; rfl
  go_wp2_with fail
  refine (K3 _ Xw4).mono ?_
  rintro e w5 ⟨rfl, Bw5⟩
  have Xw5 := belowStep Xw4 (by have := HZ.out; have := Cw4.size; omega) Bw5
  have Cw5 := Cw4.trans (Bw5.mono Cw4.size)
  clear K3 x5 x6 x7 Bw5 Cw4 Xw4
  have x5 : w5.cell? ⟨z, 5, none⟩ = some (.string ea) := by rw [Lib.cell_of_heap (HC.out w5 Cw5).out.2.2.1]; rfl
  have x6 : w5.cell? ⟨z, 6, none⟩ = some (.string ra) := by rw [Lib.cell_of_heap (HC.out w5 Cw5).out.2.2.1]; rfl
  have x7 : w5.cell? ⟨z, 7, none⟩ = some (.int .u64 m) := by rw [Lib.cell_of_heap (HC.out w5 Cw5).out.2.2.1]; rfl
  go_wp2_with fail
  refine (K4 _ Xw5).mono ?_
  rintro e w6 ⟨rfl, Bw6⟩
  have Xw6 := belowStep Xw5 (by have := HZ.out; have := Cw5.size; omega) Bw6
  have Cw6 := Cw5.trans (Bw6.mono Cw5.size)
  clear K4 x5 x6 x7 Bw6 Cw5 Xw5
  have x9 : w6.cell? ⟨z + 1, 0, none⟩ = some (.slice a2 M c2) := by rw [Lib.cell_of_heap (HC.out w6 Cw6).out.2.2.2]; rfl
  have x10 : w6.cell? ⟨z + 1, 1, none⟩ = some (.string sm) := by rw [Lib.cell_of_heap (HC.out w6 Cw6).out.2.2.2]; rfl
  go_wp2_with fail
  refine (K5 _ Xw6).mono ?_
  rintro e w7 ⟨rfl, Bw7⟩
  have Xw7 := belowStep Xw6 (by have := HZ.out; have := Cw6.size; omega) Bw7
  have Cw7 := Cw6.trans (Bw7.mono Cw6.size)
  clear K5 x9 x10 Bw7 Cw6 Xw6
  have x9 : w7.cell? ⟨z + 1, 0, none⟩ = some (.slice a2 M c2) := by rw [Lib.cell_of_heap (HC.out w7 Cw7).out.2.2.2]; rfl
  have x10 : w7.cell? ⟨z + 1, 1, none⟩ = some (.string sm) := by rw [Lib.cell_of_heap (HC.out w7 Cw7).out.2.2.2]; rfl
  go_wp2_with fail
  refine (K6 _ Xw7).mono ?_
  rintro e w8 ⟨rfl, Bw8⟩
  have Xw8 := belowStep Xw7 (by have := HZ.out; have := Cw7.size; omega) Bw8
  have Cw8 := Cw7.trans (Bw8.mono Cw7.size)
  clear K6 x9 x10 Bw8 Cw7 Xw7
  have x0 : w8.cell? ⟨z, 0, none⟩ = some (.int .u64 s) := by rw [Lib.cell_of_heap (HC.out w8 Cw8).out.2.2.1]; rfl
  have x1 : w8.cell? ⟨z, 1, none⟩ = some (.int .u64 u) := by rw [Lib.cell_of_heap (HC.out w8 Cw8).out.2.2.1]; rfl
  have x2 : w8.cell? ⟨z, 2, none⟩ = some (.string p) := by rw [Lib.cell_of_heap (HC.out w8 Cw8).out.2.2.1]; rfl
  have x3 : w8.cell? ⟨z, 3, none⟩ = some (.string t) := by rw [Lib.cell_of_heap (HC.out w8 Cw8).out.2.2.1]; rfl
  have x4 : w8.cell? ⟨z, 4, none⟩ = some (.string b) := by rw [Lib.cell_of_heap (HC.out w8 Cw8).out.2.2.1]; rfl
  have x5 : w8.cell? ⟨z, 5, none⟩ = some (.string ea) := by rw [Lib.cell_of_heap (HC.out w8 Cw8).out.2.2.1]; rfl
  have x6 : w8.cell? ⟨z, 6, none⟩ = some (.string ra) := by rw [Lib.cell_of_heap (HC.out w8 Cw8).out.2.2.1]; rfl
  have x7 : w8.cell? ⟨z, 7, none⟩ = some (.int .u64 m) := by rw [Lib.cell_of_heap (HC.out w8 Cw8).out.2.2.1]; rfl
  have x8 : w8.cell? ⟨z, 8, none⟩ = some (.slice a N c) := by rw [Lib.cell_of_heap (HC.out w8 Cw8).out.2.2.1]; rfl
  have s1 : (v1.toList == v1.toList) = true := beq_self_eq_true _
  have s2 : (v2.toList == v2.toList) = true := beq_self_eq_true _
  have s3 : (v3.toList == v3.toList) = true := beq_self_eq_true _
  have hh : (ho == ho) = true := beq_self_eq_true _
  have G : ∀ d os, Below z w (grow (redrawn w8 d) os) := fun d os => belowStep Xw8 (by have := HZ.out; have := Cw8.size; omega) (below_regrown w8 d os)
  have cA := fun d os => Calls.regrown_of (K7 _ (G d os))
  have cB := fun d os => Calls.regrown_of (K8 _ (G d os))
  have k0 := cell_regrown x0
  have k1 := cell_regrown x1
  have k2 := cell_regrown x2
  have k3 := cell_regrown x3
  have k4 := cell_regrown x4
  have k5 := cell_regrown x5
  have k6 := cell_regrown x6
  have k7 := cell_regrown x7
  have k8 := cell_regrown x8
  have HB8 : Hid (_ ∧ _) := ⟨Xw8, (by have := HZ.out; have := Cw8.size; omega : z ≤ w8.heap.size)⟩
  clear G K7 K8 Xw8 Cw8 x0 x1 x2 x3 x4 x5 x6 x7 x8
  go_wp2_with fail
  refine wp_region_quiet_below (by kernel_rfl) (by kernel_rfl) ?_
  iterate 33 (go_big_quiet_step (fail))
  go_big_quiet_step (exact cA _ _)
  go_big_quiet_step (fail)
  go_big_quiet_step (exact cB _ _)
  iterate 3 (go_big_quiet_step (fail))
  refine wpQuiet_nil ?_
  intro w9 hw9
  have B9 : Below w8.heap.size w8 w9 := by
    obtain ⟨p, rfl⟩ := hw9
    exact below_regrown _ _ _
  clear hw9
  have HF : Hid _ := belowStep HB8.out.1 HB8.out.2 B9
  clear B9 cA cB k0 k1 k2 k3 k4 k5 k6 k7 k8
  go_wp2
  go_ret
  refine ⟨?_, by rw [HZ.out]; exact HF.out⟩
  first | rfl | simp
end Go.Proofs.YtmefanagpkbjeaaDoor
namespace Go.Proofs.YtmefanagpkbjeaaDoor
open Go.RowKit Go.Shelf Go.Sort

theorem ClashP.mono {l m : List ByteArray} (h : ClashP l) (hs : ∀ x ∈ l, x ∈ m) : ClashP m := by
  obtain ⟨s, h1, t, h2, h3, h4⟩ := h
  exact ⟨s, hs s h1, t, hs t h2, h3, h4⟩
/-- Two trees of one root have the same leaves, or two texts clash. -/
theorem tree_apart (xs ys : List ByteArray) (hx : ∀ x ∈ xs, x.size = 32) (hy : ∀ x ∈ ys, x.size = 32) (D : Nat) : ∀ k i, k ≤ D → i < 2 ^ (D - k) → lf (lvs xs) k i = lf (lvs ys) k i →
    (∀ j, i * 2 ^ k ≤ j → j < (i + 1) * 2 ^ k → lvs xs j = lvs ys j) ∨ ClashP (smA xs D D ++ smA ys D D)
  | 0, i, _, _, h => .inl fun j h1 h2 => by
    have : j = i := by omega
    subst this
    exact h
  | k + 1, i, hk, hi, h => by
    have hz := lf_size (lvs xs) (lvs_size xs hx)
    have hw := lf_size (lvs ys) (lvs_size ys hy)
    have hp : 2 ^ (D - k) = 2 * 2 ^ (D - (k + 1)) := by rw [show D - k = D - (k + 1) + 1 by omega, Nat.pow_succ]; omega
    have h2 : sumOf (lf (lvs xs) k (2 * i) ++ lf (lvs xs) k (2 * i + 1)) = sumOf (lf (lvs ys) k (2 * i) ++ lf (lvs ys) k (2 * i + 1)) := h
    by_cases e : lf (lvs xs) k (2 * i) ++ lf (lvs xs) k (2 * i + 1) = lf (lvs ys) k (2 * i) ++ lf (lvs ys) k (2 * i + 1)
    · obtain ⟨e1, e2⟩ := app_inj e (by rw [hz, hw])
      rcases tree_apart xs ys hx hy D k (2 * i) (by omega) (by omega) e1 with h3 | h3
      · rcases tree_apart xs ys hx hy D k (2 * i + 1) (by omega) (by omega) e2 with h4 | h4
        · refine .inl fun j h5 h6 => ?_
          have e3 : 2 ^ (k + 1) = 2 * 2 ^ k := by rw [Nat.pow_succ]; omega
          rw [e3] at h5 h6
          by_cases h7 : j < (2 * i + 1) * 2 ^ k
          · refine h3 j ?_ h7
            rw [Nat.mul_assoc, Nat.mul_left_comm]
            exact h5
          · refine h4 j (by omega) ?_
            rw [show 2 * i + 1 + 1 = 2 * (i + 1) by omega, Nat.mul_assoc, Nat.mul_left_comm]
            exact h6
        · exact .inr h4
      · exact .inr h3
    · exact .inr ⟨_, List.mem_append_left _ (smA_mem xs D D k i (by omega) (by omega)), _, List.mem_append_right _ (smA_mem ys D D k i (by omega) (by omega)), e, h2⟩
theorem num_inj8 (n m : Nat) (hn : n < 18446744073709551616) (hm : m < 18446744073709551616) (h : z_numOf (n : Int) = z_numOf (m : Int)) : n = m := by
  have key : ∀ j, j < 8 → (n : Int) / 2 ^ (8 * j) % 256 = (m : Int) / 2 ^ (8 * j) % 256 := fun j hj => by
    have h1 := congrArg (fun t : ByteArray => s_bt t j) h
    simp only [z_numOf] at h1
    rw [bt_by88 _ _ (nb_bd n) j (by omega), bt_by88 _ _ (nb_bd m) j (by omega)] at h1
    unfold nbAt at h1
    rwa [if_pos hj, if_pos hj] at h1
  have k0 := key 0 (by omega)
  have k1 := key 1 (by omega)
  have k2 := key 2 (by omega)
  have k3 := key 3 (by omega)
  have k4 := key 4 (by omega)
  have k5 := key 5 (by omega)
  have k6 := key 6 (by omega)
  have k7 := key 7 (by omega)
  rw [show (2 : Int) ^ (8 * 0) = 1 from rfl] at k0
  rw [show (2 : Int) ^ (8 * 1) = 256 from rfl] at k1
  rw [show (2 : Int) ^ (8 * 2) = 65536 from rfl] at k2
  rw [show (2 : Int) ^ (8 * 3) = 16777216 from rfl] at k3
  rw [show (2 : Int) ^ (8 * 4) = 4294967296 from rfl] at k4
  rw [show (2 : Int) ^ (8 * 5) = 1099511627776 from rfl] at k5
  rw [show (2 : Int) ^ (8 * 6) = 281474976710656 from rfl] at k6
  rw [show (2 : Int) ^ (8 * 7) = 72057594037927936 from rfl] at k7
  omega
/-- Headers of one root are the same, or two texts clash. -/
theorem heads_apart (s u s' u' : Nat) (p t b p' t' b' : ByteArray) (hs : s < 18446744073709551616) (hu : u < 18446744073709551616) (hs' : s' < 18446744073709551616) (hu' : u' < 18446744073709551616)
    (h1 : ∀ x ∈ hdC s u p t b, x.size = 32) (h2 : ∀ x ∈ hdC s' u' p' t' b', x.size = 32) (h : lf (lvs (hdC s u p t b)) 3 0 = lf (lvs (hdC s' u' p' t' b')) 3 0) :
    (s = s' ∧ u = u' ∧ p = p' ∧ t = t' ∧ b = b') ∨ ClashP (smA (hdC s u p t b) 3 3 ++ smA (hdC s' u' p' t' b') 3 3) := by
  rcases tree_apart _ _ h1 h2 3 3 0 (Nat.le_refl _) (by decide) h with hj | hc
  · refine .inl ⟨num_inj8 s s' hs hs' (hj 0 (by decide) (by decide)), num_inj8 u u' hu hu' (hj 1 (by decide) (by decide)), hj 2 (by decide) (by decide), hj 3 (by decide) (by decide), hj 4 (by decide) (by decide)⟩
  · exact .inr hc
theorem execs_apart (s s' : Nat) (p t p' t' : ByteArray) (hs : s < 18446744073709551616) (hs' : s' < 18446744073709551616)
    (h1 : ∀ x ∈ exC p t s, x.size = 32) (h2 : ∀ x ∈ exC p' t' s', x.size = 32) (h : lf (lvs (exC p t s)) 2 0 = lf (lvs (exC p' t' s')) 2 0) :
    (p = p' ∧ t = t' ∧ s = s') ∨ ClashP (smA (exC p t s) 2 2 ++ smA (exC p' t' s') 2 2) := by
  rcases tree_apart _ _ h1 h2 2 2 0 (Nat.le_refl _) (by decide) h with hj | hc
  · exact .inl ⟨hj 0 (by decide) (by decide), hj 1 (by decide) (by decide), num_inj8 s s' hs hs' (hj 2 (by decide) (by decide))⟩
  · exact .inr hc
theorem eqlH (s u s' u' : Nat) (p t b p' t' b' : ByteArray) (W : World) : (binOp .eql 24 (.agg #[.int .u64 s, .int .u64 u, .string p, .string t, .string b]) (.agg #[.int .u64 s', .int .u64 u', .string p', .string t', .string b'])).run Tryd.prog W = .ok (.bool (decide (s = s' ∧ u = u' ∧ p = p' ∧ t = t' ∧ b = b'))) W := by
  by_cases h1 : s = s'
  · subst h1
    by_cases h2 : u = u'
    · subst h2
      by_cases h3 : p = p'
      · subst h3
        by_cases h4 : t = t'
        · subst h4
          by_cases h5 : b = b'
          · subst h5
            simp [go_sem]
          · have h5' : (b.toList == b'.toList) = false := by rw [beq_eq_false_iff_ne]; exact fun e => h5 (toList_inj e)
            simp [go_sem, h5, h5']
        · have h4' : (t.toList == t'.toList) = false := by rw [beq_eq_false_iff_ne]; exact fun e => h4 (toList_inj e)
          simp [go_sem, h4, h4']
      · have h3' : (p.toList == p'.toList) = false := by rw [beq_eq_false_iff_ne]; exact fun e => h3 (toList_inj e)
        simp [go_sem, h3, h3']
    · have h2' : ¬ (u : Int) = u' := by omega
      simp [go_sem, h2, h2']
  · have h1' : ¬ (s : Int) = s' := by omega
    simp [go_sem, h1, h1']
set_option maxHeartbeats 1000000 in
theorem hsums_any (s u : Int) (p t b : ByteArray) (h32 : ∀ x ∈ hdC s u p t b, x.size = 32) (w : World) :
    Calls Tryd.prog 29 #[.agg #[.int .u64 s, .int .u64 u, .string p, .string t, .string b]] w fun e w' => (∃ v z, e = .returned v ∧ w.heap.size ≤ z ∧ z ≤ w'.heap.size ∧ w'.ownsRow z 9 1 v (smA (hdC s u p t b) 3 3).length ((smA (hdC s u p t b) 3 3).map .string)) ∧ Below w.heap.size w w' := by
  have A0 : Below w.heap.size w (w.alloc (.cells #[.int .u64 s, .int .u64 u, .string p, .string t, .string b] 24)) := (Below.refl _ w).alloc (Nat.le_refl _) _
  have KC := chunks_any s u p t b (w.alloc (.cells #[.int .u64 s, .int .u64 u, .string p, .string t, .string b] 24))
  have hlen : (hdC s u p t b).length = 5 := rfl
  obtain ⟨xs, hxs⟩ : ∃ xs, hdC s u p t b = xs := ⟨_, rfl⟩
  rw [hxs] at KC hlen h32 ⊢
  clear hxs
  have KR := fun (g n : Nat) (W : World) (hn : n ≤ W.heap.size) (hs : slS n W (some ⟨g, 0, none⟩) xs) => rsums_any xs 3 (by omega) (by rw [hlen]; decide) h32 (some ⟨g, 0, none⟩) 5 n W hn hs
  rw [hlen] at KR
  obtain ⟨l, hl⟩ : ∃ l, smA xs 3 3 = l := ⟨_, rfl⟩
  rw [hl] at KR ⊢
  clear hl hlen
  go_enter Tryd.func29, Tryd.ntmps29
  go_wp2_with fail
  refine KC.mono ?_
  rintro e w1 ⟨g, rfl, hs, hg, B1⟩
  have B2 := belowStep A0 A0.size B1
  clear KC A0 B1
  go_wp2_with fail
  refine (KR g (g + 1) w1 hg hs).mono ?_
  rintro e w3 ⟨⟨v, rfl, ho⟩, B3⟩
  have HX : Hid (_ ∧ _ ∧ _) := ⟨ho, B2, B3⟩
  clear ho B2 B3 KR
  go_wp2
  go_ret
  obtain ⟨ho, B2, B3⟩ := HX.out
  exact ⟨⟨v, w1.heap.size, rfl, B2.size, B3.size, ho⟩, belowStep B2 B2.size B3⟩
end Go.Proofs.YtmefanagpkbjeaaDoor
namespace Go.Proofs.YtmefanagpkbjeaaDoor
open Go.RowKit Go.Shelf Go.Sort

/-- Texts that were made anew, in a row. -/
def OwR (B : Nat) (l : List ByteArray) (X : Value) (W : World) : Prop := ∃ z, B ≤ z ∧ z ≤ W.heap.size ∧ W.ownsRow z 9 1 X l.length (l.map .string)
theorem OwR.grow {B : Nat} {l : List ByteArray} {X : Value} {W W' : World} (h : OwR B l X W) (hb : Below W.heap.size W W') : OwR B l X W' := by
  obtain ⟨z, h1, h2, h3⟩ := h
  exact ⟨z, h1, Nat.le_trans h2 hb.size, owns_below8 h3 hb⟩
/-- What holds while a statement runs. -/
structure Ma_apart (V : World) (z s u s' u' : Nat) (p t b p' t' b' : ByteArray) (la lb : List ByteArray) (S : Nat → Bool) (x38 x39 x40 x41 x42 x43 : Value) (W : World) : Prop where
  e : Below V.heap.size V W
  f0 : S 0 = true → x38 = Value.bool true
  f1 : S 1 = true → x39 = Value.bool true
  f2 : S 2 = true → x40 = Value.agg #[.int .u64 s, .int .u64 u, .string p, .string t, .string b]
  f3 : S 3 = true → OwR V.heap.size la x41 W
  f4 : S 4 = true → x42 = Value.agg #[.int .u64 s', .int .u64 u', .string p', .string t', .string b']
  f5 : S 5 = true → OwR V.heap.size lb x43 W
theorem Ma_apart.grow {V : World} {z s u s' u' : Nat} {p t b p' t' b' : ByteArray} {la lb : List ByteArray} {S : Nat → Bool} {x38 x39 x40 x41 x42 x43 : Value} {W W' : World} (h : Ma_apart V z s u s' u' p t b p' t' b' la lb S x38 x39 x40 x41 x42 x43 W) (hb : Below W.heap.size W W') : Ma_apart V z s u s' u' p t b p' t' b' la lb S x38 x39 x40 x41 x42 x43 W' :=
  ⟨belowStep h.e h.e.size hb, h.f0, h.f1, h.f2, fun s => OwR.grow (h.f3 s) hb, h.f4, fun s => OwR.grow (h.f5 s) hb⟩
set_option maxRecDepth 100000 in
set_option maxHeartbeats 4000000 in
theorem headapart_any (s u : Nat) (p t b : ByteArray) (s' u' : Nat) (p' t' b' : ByteArray) (w : World) (hl : Laid w) (hs : s < 18446744073709551616) (hu : u < 18446744073709551616) (hs' : s' < 18446744073709551616) (hu' : u' < 18446744073709551616) :
    Calls Tryd.prog 7 #[.agg #[.int .u64 s, .int .u64 u, .string p, .string t, .string b], .agg #[.int .u64 s', .int .u64 u', .string p', .string t', .string b']] w fun e w' => e = .returned (.bool true) ∧ Below w.heap.size w w' := by
  have KS := fun (W : World) (hB : Below w.heap.size w W) => shown13_any W (hl.below hB)
  have K1 := fun (W : World) (hB : Below w.heap.size w W) => hroot_any s u p t b W (hl.below hB)
  have K2 := fun (W : World) (hB : Below w.heap.size w W) => hroot_any s' u' p' t' b' W (hl.below hB)
  have hA := fun h32 => hsums_any s u p t b h32
  have hB := fun h32 => hsums_any s' u' p' t' b' h32
  have hap := heads_apart s u s' u' p t b p' t' b' hs hu hs' hu'
  have hEq := eqlH s u s' u' p t b p' t' b'
  have hsz1 := smA_size (hdC s u p t b)
  have hsz2 := smA_size (hdC s' u' p' t' b')
  have hlA := smA_len (hdC s u p t b) 3 3 (Nat.le_refl _)
  have hlB := smA_len (hdC s' u' p' t' b') 3 3 (Nat.le_refl _)
  unfold rtS rtE at K1 K2
  obtain ⟨xs, hxs⟩ : ∃ x, hdC s u p t b = x := ⟨_, rfl⟩
  obtain ⟨ys, hys⟩ : ∃ x, hdC s' u' p' t' b' = x := ⟨_, rfl⟩
  rw [hxs] at K1 hA hap hsz1 hlA
  rw [hys] at K2 hB hap hsz2 hlB
  obtain ⟨r1, hr1⟩ : ∃ r, rt8 xs ((3 : Nat) : Int) = r := ⟨_, rfl⟩
  obtain ⟨r2, hr2⟩ : ∃ r, rt8 ys ((3 : Nat) : Int) = r := ⟨_, rfl⟩
  rw [hr1] at K1
  rw [hr2] at K2
  obtain ⟨qe, hqe⟩ : ∃ q, decide (s = s' ∧ u = u' ∧ p = p' ∧ t = t' ∧ b = b') = q := ⟨_, rfl⟩
  rw [hqe] at hEq
  have h32x : r1 = true → ∀ x ∈ xs, x.size = 32 := fun h => ((rt8_iff _ _).1 (by rw [hr1, h])).2.2.2.2
  have h32y : r2 = true → ∀ x ∈ ys, x.size = 32 := fun h => ((rt8_iff _ _).1 (by rw [hr2, h])).2.2.2.2
  obtain ⟨x1, hx1⟩ : ∃ v, (if r1 = true then lf (lvs xs) 3 0 else ⟨#[]⟩) = v := ⟨_, rfl⟩
  obtain ⟨x2, hx2⟩ : ∃ v, (if r2 = true then lf (lvs ys) 3 0 else ⟨#[]⟩) = v := ⟨_, rfl⟩
  obtain ⟨e1, he1⟩ : ∃ v : Int, (if r1 = true then (0 : Int) else 130) = v := ⟨_, rfl⟩
  obtain ⟨e2, he2⟩ : ∃ v : Int, (if r2 = true then (0 : Int) else 130) = v := ⟨_, rfl⟩
  rw [hx1, he1] at K1
  rw [hx2, he2] at K2
  have HP : Hid (_ ∧ _ ∧ _ ∧ _ ∧ _ ∧ _ ∧ _ ∧ _ ∧ _ ∧ _ ∧ _ ∧ _ ∧ _ ∧ _) := ⟨hap, hsz1, hsz2, hlA, hlB, h32x, h32y, hx1, hx2, he1, he2, hqe, hA, hB⟩
  clear hap hsz1 hsz2 hlA hlB h32x h32y hx1 hx2 he1 he2 hqe hA hB hr1 hr2 hxs hys hs hu hs' hu'
  obtain ⟨A0, h0, h1⟩ := two_boxesU w (.cells #[.int .u64 s, .int .u64 u, .string p, .string t, .string b] 24) (.cells #[.int .u64 s', .int .u64 u', .string p', .string t', .string b'] 24)
  obtain ⟨z, hz⟩ : ∃ z, w.heap.size = z := ⟨_, rfl⟩
  have HZ : Hid (w.heap.size = z) := hz
  obtain ⟨w1, hw1⟩ : ∃ W, (w.alloc (.cells #[.int .u64 s, .int .u64 u, .string p, .string t, .string b] 24)).alloc (.cells #[.int .u64 s', .int .u64 u', .string p', .string t', .string b'] 24) = W := ⟨_, rfl⟩
  have hsz : w1.heap.size = z + 2 := by rw [← hw1, ← hz]; simp
  rw [hw1] at A0 h0 h1
  rw [hz] at A0 h0 h1 KS K1 K2
  have cs : ∀ W : World, Below w1.heap.size w1 W → Hid (z < W.heap.size ∧ z + 1 < W.heap.size ∧ W.heap[z]? = some (.cells #[.int .u64 s, .int .u64 u, .string p, .string t, .string b] 24 (0, 0)) ∧ W.heap[z + 1]? = some (.cells #[.int .u64 s', .int .u64 u', .string p', .string t', .string b'] 24 (0, 0))) := fun W hB => ⟨by have := hB.size; omega, by have := hB.size; omega, (hB.block z (by omega)).trans h0, (hB.block (z + 1) (by omega)).trans h1⟩
  have HC : Hid _ := cs
  go_enter Tryd.func7, Tryd.ntmps7
  clear h0 h1 cs
  have C1 : Below w1.heap.size w1 w1 := Below.refl _ _
  go_wp2_with fail
  refine (KS _ A0).mono ?_
  rintro e w2 ⟨rfl, B2⟩
  have X2 := belowStep A0 (by have := HZ.out; omega) B2
  have C2 := C1.trans (B2.mono C1.size)
  clear KS B2 C1 hw1
  have c0 : w2.cell? ⟨z, 0, none⟩ = some (.int .u64 s) := by rw [Lib.cell_of_heap (HC.out w2 C2).out.2.2.1]; rfl
  have c1 : w2.cell? ⟨z, 1, none⟩ = some (.int .u64 u) := by rw [Lib.cell_of_heap (HC.out w2 C2).out.2.2.1]; rfl
  have c2 : w2.cell? ⟨z, 2, none⟩ = some (.string p) := by rw [Lib.cell_of_heap (HC.out w2 C2).out.2.2.1]; rfl
  have c3 : w2.cell? ⟨z, 3, none⟩ = some (.string t) := by rw [Lib.cell_of_heap (HC.out w2 C2).out.2.2.1]; rfl
  have c4 : w2.cell? ⟨z, 4, none⟩ = some (.string b) := by rw [Lib.cell_of_heap (HC.out w2 C2).out.2.2.1]; rfl
  go_wp2_with fail
  refine (K1 _ X2).mono ?_
  rintro e w3 ⟨rfl, B3⟩
  have X3 := belowStep X2 (by have := HZ.out; have := C2.size; omega) B3
  have C3 := C2.trans (B3.mono C2.size)
  clear K1 B3 C2 X2 c0 c1 c2 c3 c4
  have d0 : w3.cell? ⟨z + 1, 0, none⟩ = some (.int .u64 s') := by rw [Lib.cell_of_heap (HC.out w3 C3).out.2.2.2]; rfl
  have d1 : w3.cell? ⟨z + 1, 1, none⟩ = some (.int .u64 u') := by rw [Lib.cell_of_heap (HC.out w3 C3).out.2.2.2]; rfl
  have d2 : w3.cell? ⟨z + 1, 2, none⟩ = some (.string p') := by rw [Lib.cell_of_heap (HC.out w3 C3).out.2.2.2]; rfl
  have d3 : w3.cell? ⟨z + 1, 3, none⟩ = some (.string t') := by rw [Lib.cell_of_heap (HC.out w3 C3).out.2.2.2]; rfl
  have d4 : w3.cell? ⟨z + 1, 4, none⟩ = some (.string b') := by rw [Lib.cell_of_heap (HC.out w3 C3).out.2.2.2]; rfl
  go_wp2_with fail
  refine (K2 _ X3).mono ?_
  rintro e w4 ⟨rfl, B4⟩
  have X4 := belowStep X3 (by have := HZ.out; have := C3.size; omega) B4
  have C4 := C3.trans (B4.mono C3.size)
  clear K2 B4 C3 X3 d0 d1 d2 d3 d4
  have c0 : w4.cell? ⟨z, 0, none⟩ = some (.int .u64 s) := by rw [Lib.cell_of_heap (HC.out w4 C4).out.2.2.1]; rfl
  have c1 : w4.cell? ⟨z, 1, none⟩ = some (.int .u64 u) := by rw [Lib.cell_of_heap (HC.out w4 C4).out.2.2.1]; rfl
  have c2 : w4.cell? ⟨z, 2, none⟩ = some (.string p) := by rw [Lib.cell_of_heap (HC.out w4 C4).out.2.2.1]; rfl
  have c3 : w4.cell? ⟨z, 3, none⟩ = some (.string t) := by rw [Lib.cell_of_heap (HC.out w4 C4).out.2.2.1]; rfl
  have c4 : w4.cell? ⟨z, 4, none⟩ = some (.string b) := by rw [Lib.cell_of_heap (HC.out w4 C4).out.2.2.1]; rfl
  have d0 : w4.cell? ⟨z + 1, 0, none⟩ = some (.int .u64 s') := by rw [Lib.cell_of_heap (HC.out w4 C4).out.2.2.2]; rfl
  have d1 : w4.cell? ⟨z + 1, 1, none⟩ = some (.int .u64 u') := by rw [Lib.cell_of_heap (HC.out w4 C4).out.2.2.2]; rfl
  have d2 : w4.cell? ⟨z + 1, 2, none⟩ = some (.string p') := by rw [Lib.cell_of_heap (HC.out w4 C4).out.2.2.2]; rfl
  have d3 : w4.cell? ⟨z + 1, 3, none⟩ = some (.string t') := by rw [Lib.cell_of_heap (HC.out w4 C4).out.2.2.2]; rfl
  have d4 : w4.cell? ⟨z + 1, 4, none⟩ = some (.string b') := by rw [Lib.cell_of_heap (HC.out w4 C4).out.2.2.2]; rfl
  have hz4 : z + 2 ≤ w4.heap.size := by have := C4.size; omega
  have HX4 : Hid (_ ∧ _) := ⟨X4, C4⟩
  clear X4 C4
  cases r1 with
  | false =>
    obtain rfl : (130 : Int) = e1 := HP.out.2.2.2.2.2.2.2.2.2.1
    go_wp2
    go_ret
    rw [HZ.out]
    exact ⟨rfl, HX4.out.1⟩
  | true =>
    obtain rfl : (0 : Int) = e1 := HP.out.2.2.2.2.2.2.2.2.2.1
    cases r2 with
    | false =>
      obtain rfl : (130 : Int) = e2 := HP.out.2.2.2.2.2.2.2.2.2.2.1
      go_wp2
      go_ret
      rw [HZ.out]
      exact ⟨rfl, HX4.out.1⟩
    | true =>
      obtain rfl : (0 : Int) = e2 := HP.out.2.2.2.2.2.2.2.2.2.2.1
      cases qe with
      | true =>
        go_wp2
        go_ret
        rw [HZ.out]
        exact ⟨rfl, HX4.out.1⟩
      | false =>
        by_cases hxx : x1 = x2
        · subst hxx
          have hsb : (x1.toList == x1.toList) = true := beq_self_eq_true _
          obtain ⟨hap, hsz1, hsz2, hlA, hlB, h32x, h32y, hx1, hx2, _, _, hqe, hA, hB⟩ := HP.out
          have hcl := hap (h32x rfl) (h32y rfl) (by rw [if_pos rfl] at hx1 hx2; rw [hx1, hx2])
          have hcl2 : ClashP (smA xs 3 3 ++ smA ys 3 3) := by
            rcases hcl with h | h
            · exact absurd h (of_decide_eq_false hqe)
            · exact h
          have KA := hA (h32x rfl)
          have KB := hB (h32y rfl)
          have hs1 := hsz1 (h32x rfl) 3 3
          have hs2 := hsz2 (h32y rfl) 3 3
          obtain ⟨la, hla⟩ : ∃ l, smA xs 3 3 = l := ⟨_, rfl⟩
          obtain ⟨lb, hlb⟩ : ∃ l, smA ys 3 3 = l := ⟨_, rfl⟩
          rw [hla] at KA hcl2 hs1 hlA
          rw [hlb] at KB hcl2 hs2 hlB
          have HCL : Hid (clB (la ++ lb) = true) := clB_of hcl2
          have HSZ : Hid (∀ x ∈ la ++ lb, x.size ≤ 100000) := fun x hx => by
            rcases List.mem_append.1 hx with h | h
            · rw [hs1 x h]; decide
            · rw [hs2 x h]; decide
          have hl7 : la.length = 7 := by
            have : la.length + 1 = 8 := hlA
            omega
          have hm7 : lb.length = 7 := by
            have : lb.length + 1 = 8 := hlB
            omega
          clear hap hsz1 hsz2 hlA hlB h32x h32y hx1 hx2 hqe hA hB hcl hcl2 hs1 hs2 hla hlb HP
          go_wp2_with fail
          refine region_inv_tail 6 (fun S aa W => ∃ x38 x39 x40 x41 x42 x43 : Value, aa = { tmps := #[Value.agg #[Value.int IntKind.u64 ↑s, Value.int IntKind.u64 ↑u, Value.string p, Value.string t, Value.string b], Value.agg #[Value.int IntKind.u64 ↑s', Value.int IntKind.u64 ↑u', Value.string p', Value.string t', Value.string b'], Value.pointer (some { block := z, off := 0 }), Value.pointer (some { block := z + 1, off := 0 }), Value.bool false, Value.bool true, Value.string x1, Value.int IntKind.i64 0, Value.string x1, Value.int IntKind.i64 0, Value.bool true, Value.tuple #[Value.string x1, Value.int IntKind.i64 0], Value.agg #[Value.int IntKind.u64 ↑s, Value.int IntKind.u64 ↑u, Value.string p, Value.string t, Value.string b], Value.tuple #[Value.string x1, Value.int IntKind.i64 0], Value.string x1, Value.int IntKind.i64 0, Value.tuple #[Value.string x1, Value.int IntKind.i64 0], Value.agg #[Value.int IntKind.u64 ↑s', Value.int IntKind.u64 ↑u', Value.string p', Value.string t', Value.string b'], Value.tuple #[Value.string x1, Value.int IntKind.i64 0], Value.string x1, Value.int IntKind.i64 0, Value.int IntKind.i64 0, Value.bool false, Value.bool false, Value.int IntKind.i64 0, Value.bool false, Value.bool false, Value.bool false, Value.agg #[Value.int IntKind.u64 ↑s, Value.int IntKind.u64 ↑u, Value.string p, Value.string t, Value.string b], Value.agg #[Value.int IntKind.u64 ↑s', Value.int IntKind.u64 ↑u', Value.string p', Value.string t', Value.string b'], Value.bool false, Value.bool false, Value.bool false, Value.string x1, Value.string x1, Value.bool false, Value.bool false, undef, x38, x39, x40, x41, x42, x43, undef, undef, undef], defers := [] } ∧ Ma_apart w4 z s u s' u' p t b p' t' b' la lb S x38 x39 x40 x41 x42 x43 W) (by kernel_rfl) (by kernel_rfl) ?_ ?_ ?_
          · exact ⟨undef, undef, undef, undef, undef, undef, rfl, ⟨(Below.refl _ w4).drew, nofun, nofun, nofun, nofun, nofun, nofun⟩⟩
          · intro i o S aa W hin hi hun hJ hall K hK
            obtain ⟨x38, x39, x40, x41, x42, x43, rfl, h⟩ := hJ
            have hlt : i < 6 := hin
            have hcase : i = 0 ∨ i = 1 ∨ i = 2 ∨ i = 3 ∨ i = 4 ∨ i = 5 := by omega
            rcases hcase with rfl | rfl | rfl | rfl | rfl | rfl
            all_goals (have ho := (Option.some.inj hi).symm; subst ho; clear hi hlt hin)
            · go_simp
              exact hK _ _ ⟨_, x39, x40, x41, x42, x43, rfl, ⟨h.e, fun _ => rfl, h.f1, h.f2, h.f3, h.f4, h.f5⟩⟩
            · have s_0 : S 0 = true := hall ⟨0, .data⟩ (by simp) rfl
              obtain rfl := h.f0 s_0
              go_simp
              exact hK _ _ ⟨_, _, x40, x41, x42, x43, rfl, ⟨h.e, h.f0, fun _ => rfl, h.f2, h.f3, h.f4, h.f5⟩⟩
            · have s_1 : S 1 = true := hall ⟨1, .guard⟩ (by simp) rfl
              obtain rfl := h.f1 s_1
              have cW0 := (h.e.cell (p := ⟨z, 0, none⟩) (by show z < _; omega)).trans c0
              have cW1 := (h.e.cell (p := ⟨z, 1, none⟩) (by show z < _; omega)).trans c1
              have cW2 := (h.e.cell (p := ⟨z, 2, none⟩) (by show z < _; omega)).trans c2
              have cW3 := (h.e.cell (p := ⟨z, 3, none⟩) (by show z < _; omega)).trans c3
              have cW4 := (h.e.cell (p := ⟨z, 4, none⟩) (by show z < _; omega)).trans c4
              go_simp
              exact hK _ _ ⟨x38, _, _, x41, x42, x43, rfl, ⟨h.e, h.f0, h.f1, fun _ => rfl, h.f3, h.f4, h.f5⟩⟩
            · have s_2 : S 2 = true := hall ⟨2, .data⟩ (by simp) rfl
              obtain rfl := h.f2 s_2
              have s_1 : S 1 = true := hall ⟨1, .guard⟩ (by simp) rfl
              obtain rfl := h.f1 s_1
              go_simp
              refine (KA W).mono ?_
              rintro e w5 ⟨⟨v5, z5, rfl, k1, k2, k3⟩, hb5⟩
              have h1 := h.grow hb5
              exact hK _ _ ⟨x38, _, _, _, x42, x43, rfl, ⟨h1.e, h1.f0, h1.f1, h1.f2, fun _ => ⟨z5, Nat.le_trans h.e.size k1, k2, k3⟩, h1.f4, h1.f5⟩⟩
            · have s_1 : S 1 = true := hall ⟨1, .guard⟩ (by simp) rfl
              obtain rfl := h.f1 s_1
              have cW0 := (h.e.cell (p := ⟨z + 1, 0, none⟩) (by show z + 1 < _; omega)).trans d0
              have cW1 := (h.e.cell (p := ⟨z + 1, 1, none⟩) (by show z + 1 < _; omega)).trans d1
              have cW2 := (h.e.cell (p := ⟨z + 1, 2, none⟩) (by show z + 1 < _; omega)).trans d2
              have cW3 := (h.e.cell (p := ⟨z + 1, 3, none⟩) (by show z + 1 < _; omega)).trans d3
              have cW4 := (h.e.cell (p := ⟨z + 1, 4, none⟩) (by show z + 1 < _; omega)).trans d4
              go_simp
              exact hK _ _ ⟨x38, _, x40, x41, _, x43, rfl, ⟨h.e, h.f0, h.f1, h.f2, h.f3, fun _ => rfl, h.f5⟩⟩
            · have s_4 : S 4 = true := hall ⟨4, .data⟩ (by simp) rfl
              obtain rfl := h.f4 s_4
              have s_1 : S 1 = true := hall ⟨1, .guard⟩ (by simp) rfl
              obtain rfl := h.f1 s_1
              go_simp
              refine (KB W).mono ?_
              rintro e w5 ⟨⟨v5, z5, rfl, k1, k2, k3⟩, hb5⟩
              have h1 := h.grow hb5
              exact hK _ _ ⟨x38, _, x40, x41, _, _, rfl, ⟨h1.e, h1.f0, h1.f1, h1.f2, h1.f3, h1.f4, fun _ => ⟨z5, Nat.le_trans h.e.size k1, k2, k3⟩⟩⟩
          · rintro S aa W hall ⟨x38, x39, x40, x41, x42, x43, rfl, h⟩
            obtain rfl := h.f0 (hall 0 (by decide))
            obtain rfl := h.f1 (hall 1 (by decide))
            obtain rfl := h.f2 (hall 2 (by decide))
            obtain hOla := h.f3 (hall 3 (by decide))
            obtain rfl := h.f4 (hall 4 (by decide))
            obtain hOlb := h.f5 (hall 5 (by decide))
            have BWD := h.e
            clear h hall
            simp only [List.drop_succ_cons, List.drop_zero]
            obtain ⟨za, ha1, ha2, ha3⟩ := hOla
            obtain ⟨zb, hb1, hb2, hb3⟩ := hOlb
            obtain ⟨a5, c5, rfl, hs5⟩ := slS_owns hb3
            obtain ⟨v7, w7, hrun7, ho7, hg7⟩ := run_append_list W 27 za x41 la.length _ ha3 lb a5 7 c5 W.heap.size hm7 hs5 (by omega) (by omega) ha2
            rw [hm7]
            have hra : ∀ bb, (x41 : Value).ownBlock = some bb → za ≤ bb := fun bb hb' => (ha3.lt bb hb').1
            have B67 : Below w4.heap.size w4 w7 := BWD.grown hg7 BWD.size (fun bb hb' => Nat.le_trans ha1 (hra bb hb'))
            have HR7 : Hid _ := hrun7
            have hlen : (la ++ lb).length = la.length + 7 := by rw [List.length_append, hm7]
            rw [← List.map_append, ← hlen] at ho7
            have HO7 : Hid (_ ∧ _) := ⟨ho7, B67⟩
            clear hrun7 ho7 hg7 B67 BWD ha3 hb3 hs5 hra KA KB c0 c1 c2 c3 c4 d0 d1 d2 d3 d4
            go_wp2_with (at_builtin; refine wpList_append_wanted (by simp [Region.wanted, yielded]) _ _ 27 27 rfl _ _ _ _ rfl rfl HR7.out ?_)
            obtain ⟨ho7, B67⟩ := HO7.out
            obtain ⟨a7, c7, rfl, hs7⟩ := slS_owns ho7
            have KCL := clash_any (la ++ lb) (by rw [hlen]; omega) HSZ.out a7 c7 w7.heap.size w7 (Nat.le_refl _) hs7
            rw [HCL.out] at KCL
            clear ho7 hs7
            go_wp2_with fail
            refine KCL.mono ?_
            rintro e w8 ⟨rfl, B8⟩
            have HF : Hid _ := belowStep (HX4.out.1.trans (B67.mono (by omega))) (by have := B67.size; omega) B8
            clear KCL B8 B67
            go_wp2
            go_ret
            rw [HZ.out]
            exact ⟨rfl, HF.out⟩
        · have hsb : (x1.toList == x2.toList) = false := by rw [beq_eq_false_iff_ne]; exact fun e => hxx (toList_inj e)
          go_wp2
          go_ret
          rw [HZ.out]
          exact ⟨rfl, HX4.out.1⟩
end Go.Proofs.YtmefanagpkbjeaaDoor
