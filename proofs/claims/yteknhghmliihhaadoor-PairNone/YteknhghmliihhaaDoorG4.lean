/- What the reference's Inv, Root, Mul2, Pow2, Inv2 do. No condition. -/
import Derived.Test.YteknhghmliihhaaDoorG3
import Derived.Test.YteknhghmliihhaaDoorTail3
namespace Go.Proofs.YteknhghmliihhaaDoor
open Go.RowKit Go.Sort

set_option maxHeartbeats 2000000 in
theorem rinv_any (a : Nat) (ha : U64 a) (w : World) :
    Calls Tryd.prog 52 #[.int .u64 a] w fun e w' => e = .returned (.int .u64 (ivN a : Nat)) ∧ Below w.heap.size w w' := by
  go_enter Tryd.func52, Tryd.ntmps52
  go_wp2_with fail
  refine (rpow_any a 2147482865 ha (by unfold U64; omega) _).mono ?_
  rintro e w1 ⟨rfl, B1⟩
  go_wp2_with fail
  go_ret
  exact ⟨rfl, B1⟩

abbrev vP (a : P2) : Value := .agg #[.int .u64 (a.A : Int), .int .u64 (a.B : Int)]
abbrev UP (a : P2) : Prop := U64 a.A ∧ U64 a.B
theorem m2_u (a b : P2) : UP (m2 a b) := ⟨pm_u _ (m2_lt a b).1, pm_u _ (m2_lt a b).2⟩
theorem q2_u (a : P2) (n : Nat) : UP (q2 a n) := ⟨pm_u _ (q2_lt a n).1, pm_u _ (q2_lt a n).2⟩

set_option maxRecDepth 20000 in
set_option maxHeartbeats 4000000 in
theorem rmul2_any (a b : P2) (ha : UP a) (hb : UP b) (w : World) :
    Calls Tryd.prog 47 #[vP a, vP b] w fun e w' => e = .returned (vP (m2 a b)) ∧ Below w.heap.size w w' := by
  obtain ⟨p1, e1⟩ : ∃ x, muN a.A b.A = x := ⟨_, rfl⟩
  obtain ⟨p2, e2⟩ : ∃ x, muN a.B b.B = x := ⟨_, rfl⟩
  obtain ⟨p3, e3⟩ : ∃ x, muN a.A b.B = x := ⟨_, rfl⟩
  obtain ⟨p4, e4⟩ : ∃ x, muN a.B b.A = x := ⟨_, rfl⟩
  have u1 : U64 p1 := by rw [← e1]; exact pm_u _ (mu_lt _ _)
  have u2 : U64 p2 := by rw [← e2]; exact pm_u _ (mu_lt _ _)
  have u3 : U64 p3 := by rw [← e3]; exact pm_u _ (mu_lt _ _)
  have u4 : U64 p4 := by rw [← e4]; exact pm_u _ (mu_lt _ _)
  have eM : m2 a b = ⟨sbN p1 p2, adN p3 p4⟩ := by unfold m2; rw [e1, e2, e3, e4]
  rw [eM]
  have C1 := rmul_any a.A b.A ha.1 hb.1
  have C2 := rmul_any a.B b.B ha.2 hb.2
  have C3 := rmul_any a.A b.B ha.1 hb.2
  have C4 := rmul_any a.B b.A ha.2 hb.1
  rw [e1] at C1
  rw [e2] at C2
  rw [e3] at C3
  rw [e4] at C4
  have C5 := rsub_any p1 p2 u1 u2
  have C6 := radd_any p3 p4 u3 u4
  obtain ⟨s1, hs1⟩ : ∃ x, sbN p1 p2 = x := ⟨_, rfl⟩
  obtain ⟨s2, hs2⟩ : ∃ x, adN p3 p4 = x := ⟨_, rfl⟩
  rw [hs1] at C5 ⊢
  rw [hs2] at C6 ⊢
  clear e1 e2 e3 e4 eM hs1 hs2
  obtain ⟨aA, aB⟩ := a
  obtain ⟨bA, bB⟩ := b
  simp only at C1 C2 C3 C4
  go_enter Tryd.func47, Tryd.ntmps47
  go_wp2_with fail
  refine wpOf (fun V => Below w.heap.size w V ∧ w.heap.size + 2 < V.heap.size ∧ (∀ o, V.frozen? ⟨w.heap.size + 1 + 1, o, none⟩ = false) ∧ V.cell? ⟨w.heap.size + 1 + 1, 0, none⟩ = some (.int .u64 0) ∧ V.cell? ⟨w.heap.size + 1 + 1, 1, none⟩ = some (.int .u64 0) ∧ V.cell? ⟨w.heap.size, 0, none⟩ = some (.int .u64 aA) ∧ V.cell? ⟨w.heap.size, 1, none⟩ = some (.int .u64 aB) ∧ V.cell? ⟨w.heap.size + 1, 0, none⟩ = some (.int .u64 bA) ∧ V.cell? ⟨w.heap.size + 1, 1, none⟩ = some (.int .u64 bB)) ⟨by go_grown, by simp [go_sem], by simp [go_sem], by simp [go_sem], by simp [go_sem], by simp [go_sem], by simp [go_sem], by simp [go_sem], by simp [go_sem]⟩ ?_
  rintro V ⟨BV, hz, hf, z0, z1, a0, a1, b0, b1⟩
  have BZ : Hid (_ ∧ _ ∧ _) := ⟨BV, hz, hf⟩
  have c1 := inClass (w := V) C1
  have c2 := inClass (w := V) C2
  have c3 := inClass (w := V) C3
  have c4 := inClass (w := V) C4
  have c5 := inClass (w := V) C5
  have c6 := inClass (w := V) C6
  have k0 := cell_regrown a0
  have k1 := cell_regrown a1
  have k2 := cell_regrown b0
  have k3 := cell_regrown b1
  have lz0 := block_lt_of_cell z0
  have ZZ : Hid (_ ∧ _) := ⟨z0, z1⟩
  clear a0 a1 b0 b1 z0 z1 C1 C2 C3 C4 C5 C6 BV hz hf
  refine region_tail 23 (by kernel_rfl) (by kernel_rfl) ?_
  simp only [List.take_succ_cons, List.take_zero, List.drop_succ_cons, List.drop_zero]
  iterate 4 (quiet_step (fail))
  quiet_step (exact c1 _ _)
  iterate 4 (quiet_step (fail))
  quiet_step (exact c2 _ _)
  quiet_step (exact c5 _ _)
  iterate 4 (quiet_step (fail))
  quiet_step (exact c3 _ _)
  iterate 4 (quiet_step (fail))
  quiet_step (exact c4 _ _)
  quiet_step (exact c6 _ _)
  quiet_step (fail)
  refine wpQuiet_nil ?_
  intro w8 hw8
  have B8 : Below V.heap.size V w8 := by
    obtain ⟨p, rfl⟩ := hw8
    exact below_regrown _ _ _
  have d0 := (B8.cell (p := ⟨w.heap.size + 1 + 1, 0, none⟩) lz0).trans ZZ.out.1
  have d1 := (B8.cell (p := ⟨w.heap.size + 1 + 1, 1, none⟩) lz0).trans ZZ.out.2
  have df : ∀ o, w8.frozen? ⟨w.heap.size + 1 + 1, o, none⟩ = false := fun o => by
    rw [← BZ.out.2.2 o]
    simp only [World.frozen?, B8.block _ lz0]
  have BW := belowStep BZ.out.1 (by have := BZ.out.1.size; omega) B8
  clear hw8 k0 k1 k2 k3 c1 c2 c3 c4 c5 c6
  go_wp2_with fail
  refine bodyPost_ret (v := vP ⟨s1, s2⟩) (by simp [results, Tryd.results47, go_sem, *]) rfl ⟨rfl, ?_⟩
  exact (BW.setCell (p := ⟨w.heap.size + 1 + 1, 0, none⟩) (by show _ ≤ w.heap.size + 1 + 1; omega) _).setCell (p := ⟨w.heap.size + 1 + 1, 1, none⟩) (by show _ ≤ w.heap.size + 1 + 1; omega) _
end Go.Proofs.YteknhghmliihhaaDoor
