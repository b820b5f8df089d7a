/- The laws' walks, with pairs. No condition. -/
import Derived.Test.YtmocimhhhnlldaaG11
import Derived.BigQuiet
namespace Go.Proofs.Ytmocimhhhnlldaa
open Go.RowKit Go.Shelf Go.Sort

set_option maxRecDepth 1000000 in
set_option maxHeartbeats 4000000 in
theorem few_any (a : Nat) (x : P2) (ha : U64 a) (hx : UP x) (w : World) :
    Calls Try.prog 8 #[.int .u64 a, vP x] w fun e w' => e = .returned (.bool true) ∧ Below w.heap.size w w' := by
  have l0 : U64 0 := by unfold U64; omega
  have l1 : U64 1 := by unfold U64; omega
  have l2 : U64 2 := by unfold U64; omega
  have l3 : U64 3 := by unfold U64; omega
  have C1 := mul2_any x o2 hx ⟨l1, l0⟩
  have C2 := mul_any a a ha ha
  have C3 := mul2_any x x hx hx
  have C4 := pow_any a 0 ha l0
  rw [pw_0] at C4
  have C5 := pow_any a 1 ha l1
  rw [pw_1] at C5
  have C6 := add_any a 0 ha l0
  have C7 := pow_any a 2 ha l2
  rw [pw_2] at C7
  have C8 := pow_any a 3 ha l3
  rw [pw_3] at C8
  have us : U64 (muN a a) := pm_u _ (mu_lt a a)
  have C9 := mul_any (muN a a) a us ha
  have C10 := pow2_any x 0 hx l0
  rw [q2_0] at C10
  have C11 := pow2_any x 1 hx l1
  rw [q2_1] at C11
  have C12 := pow2_any x 2 hx l2
  rw [q2_2] at C12
  have C13 := pow2_any x 3 hx l3
  rw [q2_3] at C13
  have C14 := mul2_any (m2 x x) x (m2_u x x) hx
  obtain ⟨v1, h1⟩ : ∃ v, muN (muN a a) a = v := ⟨_, rfl⟩
  obtain ⟨v2, h2⟩ : ∃ v, m2 (m2 x x) x = v := ⟨_, rfl⟩
  rw [h1] at C8 C9
  rw [h2] at C13 C14
  obtain ⟨s, hs⟩ : ∃ v, muN a a = v := ⟨_, rfl⟩
  obtain ⟨t, ht⟩ : ∃ v, m2 x x = v := ⟨_, rfl⟩
  obtain ⟨o, ho⟩ : ∃ v, m2 x o2 = v := ⟨_, rfl⟩
  obtain ⟨d, hd⟩ : ∃ v, adN a 0 = v := ⟨_, rfl⟩
  rw [hs] at C2 C7 C9
  rw [ht] at C3 C12 C14
  rw [ho] at C1 C11
  rw [hd] at C5 C6
  clear h1 h2 hs ht ho hd
  go_enter Try.func8, Try.ntmps8
  go_wp2_with fail
  refine (shown9_any _).mono ?_
  rintro e w0 ⟨rfl, B0⟩
  have BW := belowStep (n := w.heap.size) (w := w) (by go_grown) (by simp <;> omega) B0
  have PA := (Pb.new w x 30).below B0
  clear B0
  obtain ⟨zPA, aPA, bPA, fPA⟩ := id PA
  go_wp2_with fail
  clear zPA aPA bPA fPA
  refine (C1 _).mono ?_
  rintro e w1 ⟨rfl, B1⟩
  have BA : Below w0.heap.size w0 (w0.alloc (.cells #[.int .u64 (o2.A : Int), .int .u64 (o2.B : Int)] 30)) := (Below.refl _ _).alloc (Nat.le_refl _) _
  replace BA := belowStep BA BA.size B1
  have PO := (Pb.new w0 o2 30).below B1
  replace PA := PA.below BA
  replace BW := belowStep BW BW.size BA
  clear BA B1
  obtain ⟨zPA, aPA, bPA, fPA⟩ := id PA
  obtain ⟨zPO, aPO, bPO, fPO⟩ := id PO
  go_wp2_with fail
  clear zPA aPA bPA fPA zPO aPO bPO fPO
  refine (C2 _).mono ?_
  rintro e w2 ⟨rfl, B2⟩
  have BA : Below w1.heap.size w1 (w1.alloc (.cells #[.int .u64 (o.A : Int), .int .u64 (o.B : Int)] 30)) := (Below.refl _ _).alloc (Nat.le_refl _) _
  replace BA := belowStep BA BA.size B2
  have PW := (Pb.new w1 o 30).below B2
  replace PA := PA.below BA
  replace PO := PO.below BA
  replace BW := belowStep BW BW.size BA
  clear BA B2
  obtain ⟨zPA, aPA, bPA, fPA⟩ := id PA
  obtain ⟨zPO, aPO, bPO, fPO⟩ := id PO
  obtain ⟨zPW, aPW, bPW, fPW⟩ := id PW
  go_wp2_with fail
  clear zPA aPA bPA fPA zPO aPO bPO fPO zPW aPW bPW fPW
  refine (C3 _).mono ?_
  rintro e w3 ⟨rfl, B3⟩
  replace PA := PA.below B3
  replace PO := PO.below B3
  replace PW := PW.below B3
  replace BW := belowStep BW BW.size B3
  clear B3
  obtain ⟨zPA, aPA, bPA, fPA⟩ := id PA
  obtain ⟨zPO, aPO, bPO, fPO⟩ := id PO
  obtain ⟨zPW, aPW, bPW, fPW⟩ := id PW
  go_wp2_with fail
  clear zPA aPA bPA fPA zPO aPO bPO fPO zPW aPW bPW fPW
  refine wpOf (fun V => Below w.heap.size w V ∧ Pb w.heap.size x V ∧ Pb w0.heap.size o2 V ∧ Pb w1.heap.size o V ∧ Pb w3.heap.size t V) ⟨?_, ?_, ?_, ?_, Pb.new w3 t 30⟩ ?_
  · exact BW.alloc BW.size _
  · exact PA.below ((Below.refl _ _).alloc (Nat.le_refl _) _)
  · exact PO.below ((Below.refl _ _).alloc (Nat.le_refl _) _)
  · exact PW.below ((Below.refl _ _).alloc (Nat.le_refl _) _)
  clear BW PA PO PW
  rintro V ⟨BW, PA, PO, PW, PT⟩
  have c0 := inClass (w := V) (C4)
  have c1 := inClass (w := V) (C5)
  have c2 := inClass (w := V) (C6)
  have c3 := inClass (w := V) (C7)
  have c4 := inClass (w := V) (C8)
  have c5 := inClass (w := V) (C9)
  have c6 := inClass (w := V) (C10)
  have c7 := inClass (w := V) (C11)
  have c8 := inClass (w := V) (C12)
  have c9 := inClass (w := V) (C13)
  have c10 := inClass (w := V) (C14)
  have kPA := cell_regrown PA.a
  have lPA := cell_regrown PA.b
  have kPO := cell_regrown PO.a
  have lPO := cell_regrown PO.b
  have kPW := cell_regrown PW.a
  have lPW := cell_regrown PW.b
  have kPT := cell_regrown PT.a
  have lPT := cell_regrown PT.b
  have HV : Hid (_ ∧ _ ∧ _ ∧ _ ∧ _) := ⟨BW, PA, PO, PW, PT⟩
  clear BW PA PO PW PT
  refine wp_region_quiet_below (by kernel_rfl) (by kernel_rfl) ?_
  iterate 3 (go_big_quiet_step (fail))
  go_big_quiet_step (exact c0 _ _)
  iterate 4 (go_big_quiet_step (fail))
  go_big_quiet_step (exact c1 _ _)
  iterate 1 (go_big_quiet_step (fail))
  go_big_quiet_step (exact c2 _ _)
  iterate 4 (go_big_quiet_step (fail))
  go_big_quiet_step (exact c3 _ _)
  iterate 5 (go_big_quiet_step (fail))
  go_big_quiet_step (exact c4 _ _)
  iterate 2 (go_big_quiet_step (fail))
  go_big_quiet_step (exact c5 _ _)
  iterate 4 (go_big_quiet_step (fail))
  go_big_quiet_step (exact c6 _ _)
  iterate 5 (go_big_quiet_step (fail))
  go_big_quiet_step (exact c7 _ _)
  iterate 5 (go_big_quiet_step (fail))
  go_big_quiet_step (exact c8 _ _)
  iterate 5 (go_big_quiet_step (fail))
  go_big_quiet_step (exact c9 _ _)
  iterate 2 (go_big_quiet_step (fail))
  go_big_quiet_step (exact c10 _ _)
  iterate 3 (go_big_quiet_step (fail))
  refine wpQuiet_nil ?_
  intro w8 hw8
  have B8 : Below V.heap.size V w8 := by
    obtain ⟨p, rfl⟩ := hw8
    exact below_regrown _ _ _
  obtain ⟨BW, PA, PO, PW, PT⟩ := HV.out
  replace BW := belowStep BW BW.size B8
  clear hw8 HV B8 kPA lPA kPO lPO kPW lPW kPT lPT c0 c1 c2 c3 c4 c5 c6 c7 c8 c9 c10
  go_wp2
  go_ret
  exact ⟨rfl, BW⟩
end Go.Proofs.Ytmocimhhhnlldaa
