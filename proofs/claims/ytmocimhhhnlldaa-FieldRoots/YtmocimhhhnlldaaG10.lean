/- What the program's Inv2 does. No condition. -/
import Derived.Test.YtmocimhhhnlldaaG8
import Derived.Test.YtmocimhhhnlldaaG9
namespace Go.Proofs.Ytmocimhhhnlldaa
open Go.RowKit Go.Shelf Go.Sort

set_option maxRecDepth 20000 in
set_option maxHeartbeats 4000000 in
theorem inv2_any (a : P2) (ha : UP a) (w : World) :
    Calls Try.prog 26 #[vP a] w fun e w' => e = .returned (vP (i2 a)) ∧ Below w.heap.size w w' := by
  obtain ⟨m1, e1⟩ : ∃ x, muN a.A a.A = x := ⟨_, rfl⟩
  obtain ⟨m2', e2⟩ : ∃ x, muN a.B a.B = x := ⟨_, rfl⟩
  have u1 : U64 m1 := by rw [← e1]; exact pm_u _ (mu_lt _ _)
  have u2 : U64 m2' := by rw [← e2]; exact pm_u _ (mu_lt _ _)
  have C1 := mul_any a.A a.A ha.1 ha.1
  have C2 := mul_any a.B a.B ha.2 ha.2
  rw [e1] at C1
  rw [e2] at C2
  have C3 := add_any m1 m2' u1 u2
  have eN : nrN a = adN m1 m2' := by unfold nrN; rw [e1, e2]
  rw [← eN] at C3
  obtain ⟨k, hk⟩ : ∃ x, nrN a = x := ⟨_, rfl⟩
  rw [hk] at C3
  have uk : U64 k := by rw [← hk, eN]; exact pm_u _ (ad_lt _ _)
  have C4 := inv_any k uk
  obtain ⟨v, hv⟩ : ∃ x, ivN k = x := ⟨_, rfl⟩
  rw [hv] at C4
  have uv : U64 v := by rw [← hv]; exact pm_u _ (iv_lt _)
  have C6 := sub_any 0 a.B (by unfold U64; omega) ha.2
  obtain ⟨g, hg⟩ : ∃ x, sbN 0 a.B = x := ⟨_, rfl⟩
  rw [hg] at C6
  have ug : U64 g := by rw [← hg]; exact pm_u _ (sb_lt _ _)
  have C7 := mul2_any ⟨a.A, g⟩ ⟨v, 0⟩ ⟨ha.1, ug⟩ ⟨uv, by show 0 < 18446744073709551616; decide⟩
  have eI := i2_is a
  rw [hk, hv, hg] at eI
  rw [eI] at C7
  obtain ⟨r, hr⟩ : ∃ r, i2 a = r := ⟨_, rfl⟩
  rw [hr] at C7 ⊢
  clear e1 e2 eN hk hv hg eI hr
  go_enter Try.func26, Try.ntmps26
  go_wp2_with fail
  refine wpOf (fun V => Below w.heap.size w V ∧ Pb w.heap.size a V ∧ Pb (w.heap.size + 1) z2 V) ⟨by go_grown, ?_, ?_⟩ ?_
  · exact (Pb.new w a 30).below ((Below.refl _ _).alloc (Nat.le_refl _) _)
  · exact Pb.new' _ z2 30 _ (by simp)
  rintro V ⟨BV, hA, hZ⟩
  have c1 := inClass (w := V) C1
  have c2 := inClass (w := V) C2
  have c3 := inClass (w := V) C3
  have c4 := inClass (w := V) C4
  have k0 := cell_regrown hA.a
  have k1 := cell_regrown hA.b
  have HV : Hid (_ ∧ _ ∧ _) := ⟨BV, hA, hZ⟩
  clear BV hA hZ
  refine region_tail 11 (by kernel_rfl) (by kernel_rfl) ?_
  simp only [List.take_succ_cons, List.take_zero, List.drop_succ_cons, List.drop_zero]
  iterate 4 (quiet_step (fail))
  quiet_step (exact c1 _ _)
  iterate 4 (quiet_step (fail))
  quiet_step (exact c2 _ _)
  quiet_step (exact c3 _ _)
  refine wpQuiet_nil ?_
  intro w8 hw8
  have B8 : Below V.heap.size V w8 := by
    obtain ⟨p, rfl⟩ := hw8
    exact below_regrown _ _ _
  obtain ⟨BV, hA, hZ⟩ := HV.out
  have A8 := hA.below B8
  have Z8 := hZ.below B8
  have BW := belowStep BV BV.size B8
  clear hw8 k0 k1 c1 c2 c3 c4 hA hZ BV B8 HV
  go_wp2_with fail
  have c4 := inClass (w := w8) C4
  have c6 := inClass (w := w8) C6
  have c7 := inClass (w := w8) C7
  have k0 := cell_regrown A8.a
  have k1 := cell_regrown A8.b
  have HV : Hid (_ ∧ _) := ⟨BW, Z8⟩
  have AZ : Hid _ := A8
  clear BW Z8 A8
  refine region_tail 10 (by kernel_rfl) (by kernel_rfl) ?_
  simp only [List.take_succ_cons, List.take_zero, List.drop_succ_cons, List.drop_zero]
  iterate 4 (quiet_step (fail))
  quiet_step (exact c6 _ _)
  iterate 2 (quiet_step (fail))
  quiet_step (exact c4 _ _)
  quiet_step (fail)
  quiet_step (exact c7 _ _)
  refine wpQuiet_nil ?_
  intro w9 hw9
  have B9 : Below w8.heap.size w8 w9 := by
    obtain ⟨p, rfl⟩ := hw9
    exact below_regrown _ _ _
  obtain ⟨BW, Z8⟩ := HV.out
  have Z9 := Z8.below B9
  have BX := belowStep BW BW.size B9
  obtain ⟨zz, z0, z1, zf⟩ := id Z9
  clear hw9 k0 k1 c4 c6 c7 Z8 BW B9 HV AZ
  go_wp2
  refine bodyPost_ret (v := vP r) (by simp [results, Try.results26, go_sem, *]) rfl ⟨rfl, below_put2 BX (by omega) r⟩
end Go.Proofs.Ytmocimhhhnlldaa
