/- The laws' walks, with pairs. No condition. -/
import Derived.Test.YtmocimhhhnlldaaG11
import Derived.BigQuiet
namespace Go.Proofs.Ytmocimhhhnlldaa
open Go.RowKit Go.Shelf Go.Sort

set_option maxRecDepth 1000000 in
set_option maxHeartbeats 4000000 in
theorem extends_any (a b : P2) (n : Nat) (ha : UP a) (hb : UP b) (hn : U64 n) (w : World) :
    Calls Try.prog 4 #[vP a, vP b, .int .u64 n] w fun e w' => e = .returned (.bool true) ∧ Below w.heap.size w w' := by
  have C1 := mul2_any a b ha hb
  have C2 := rmul2_any a b ha hb
  have C3 := pow2_any a n ha hn
  have C4 := rpow2_any a n ha hn
  have C5 := inv2_any a ha
  have C6 := rinv2_any a ha
  obtain ⟨x, hx⟩ : ∃ v, m2 a b = v := ⟨_, rfl⟩
  obtain ⟨y, hy⟩ : ∃ v, q2 a n = v := ⟨_, rfl⟩
  obtain ⟨i, hi⟩ : ∃ v, i2 a = v := ⟨_, rfl⟩
  rw [hx] at C1 C2
  rw [hy] at C3 C4
  rw [hi] at C5 C6
  clear hx hy hi
  go_enter Try.func4, Try.ntmps4
  go_wp2_with fail
  refine (shown9_any _).mono ?_
  rintro e w0 ⟨rfl, B0⟩
  have BW := belowStep (n := w.heap.size) (w := w) (by go_grown) (by simp <;> omega) B0
  have PA := ((Pb.new w a 30).below ((Below.refl _ _).alloc (Nat.le_refl _) _)).below B0
  have PB := (Pb.new' (w.alloc (.cells #[.int .u64 (a.A : Int), .int .u64 (a.B : Int)] 30)) b 30 (w.heap.size + 1) (by simp)).below B0
  clear B0
  obtain ⟨zPA, aPA, bPA, fPA⟩ := id PA
  obtain ⟨zPB, aPB, bPB, fPB⟩ := id PB
  go_wp2_with fail
  clear zPA aPA bPA fPA zPB aPB bPB fPB
  have c0 := inClass (w := w0) (C1)
  have c1 := inClass (w := w0) (C2)
  have c2 := inClass (w := w0) (C3)
  have c3 := inClass (w := w0) (C4)
  have c4 := inClass (w := w0) (C5)
  have c5 := inClass (w := w0) (C6)
  have kPA := cell_regrown PA.a
  have lPA := cell_regrown PA.b
  have kPB := cell_regrown PB.a
  have lPB := cell_regrown PB.b
  have HV : Hid (_ ∧ _ ∧ _) := ⟨BW, PA, PB⟩
  clear BW PA PB
  refine wp_region_quiet_below (by kernel_rfl) (by kernel_rfl) ?_
  repeat (first | go_big_quiet_step (fail) | go_big_quiet_step (exact c0 _ _) | go_big_quiet_step (exact c1 _ _) | go_big_quiet_step (exact c2 _ _) | go_big_quiet_step (exact c3 _ _) | go_big_quiet_step (exact c4 _ _) | go_big_quiet_step (exact c5 _ _))
  refine wpQuiet_nil ?_
  intro w8 hw8
  have B8 : Below w0.heap.size w0 w8 := by
    obtain ⟨p, rfl⟩ := hw8
    exact below_regrown _ _ _
  obtain ⟨BW, PA, PB⟩ := HV.out
  replace BW := belowStep BW BW.size B8
  clear hw8 HV B8 kPA lPA kPB lPB c0 c1 c2 c3 c4 c5
  go_wp2
  go_ret
  exact ⟨rfl, BW⟩

set_option maxRecDepth 1000000 in
set_option maxHeartbeats 4000000 in
theorem ranges_any (a b : Nat) (x y : P2) (ha : U64 a) (hb : U64 b) (hx : UP x) (hy : UP y) (w : World) :
    Calls Try.prog 7 #[.int .u64 a, .int .u64 b, vP x, vP y] w fun e w' => e = .returned (.bool true) ∧ Below w.heap.size w w' := by
  have um : U64 (b % 50) := by unfold U64; omega
  have em : (b : Int) % 50 = ((b % 50 : Nat) : Int) := by omega
  obtain ⟨m, hm⟩ : ∃ m, b % 50 = m := ⟨_, rfl⟩
  rw [hm] at um em
  clear hm
  have lt : ∀ v : Nat, v < PM → decide ((2147482867 : Int) ≤ v) = false := fun v h => decide_eq_false (by unfold PM at h; omega)
  obtain ⟨z, hz⟩ : ∃ v, m2 x y = v := ⟨_, rfl⟩
  obtain ⟨i, hi⟩ : ∃ v, i2 x = v := ⟨_, rfl⟩
  obtain ⟨u, hu⟩ : ∃ v, q2 x m = v := ⟨_, rfl⟩
  obtain ⟨r, hr⟩ : ∃ v, roN a = v := ⟨_, rfl⟩
  have C1 := root_any a ha
  rw [hr] at C1
  have C2 := mul2_any x y hx hy
  have C10 := mul2_any y x hy hx
  rw [m2_comm y x] at C10
  rw [hz] at C2 C10
  have C3 := inv2_any x hx
  rw [hi] at C3
  have C4 := pow2_any x m hx um
  rw [hu] at C4
  have b1 := lt _ (by rw [← hr]; exact ro_lt a : r < PM)
  have b2 := lt _ (by rw [← hz]; exact (m2_lt x y).1 : z.A < PM)
  have b3 := lt _ (by rw [← hz]; exact (m2_lt x y).2 : z.B < PM)
  have b4 := lt _ (by rw [← hi]; exact (i2_lt x).1 : i.A < PM)
  have b5 := lt _ (by rw [← hi]; exact (i2_lt x).2 : i.B < PM)
  have b6 := lt _ (by rw [← hu]; exact (q2_lt x m).1 : u.A < PM)
  have b7 := lt _ (by rw [← hu]; exact (q2_lt x m).2 : u.B < PM)
  have C5 := add_any a b ha hb
  have C6 := sub_any a b ha hb
  have C7 := mul_any a b ha hb
  have C8 := pow_any a b ha hb
  have C9 := inv_any a ha
  have C11 := sub_any b a hb ha
  have C12 := sub_any 0 (sbN b a) (by unfold U64; omega) (pm_u _ (sb_lt b a))
  rw [← sb_back a b] at C12
  have b8 := lt _ (ad_lt a b)
  have b9 := lt _ (sb_lt a b)
  have b10 := lt _ (mu_lt a b)
  have b11 := lt _ (pw_lt a b)
  have b12 := lt _ (iv_lt a)
  obtain ⟨t1, h1⟩ : ∃ v, adN a b = v := ⟨_, rfl⟩
  obtain ⟨t2, h2⟩ : ∃ v, sbN a b = v := ⟨_, rfl⟩
  obtain ⟨t3, h3⟩ : ∃ v, muN a b = v := ⟨_, rfl⟩
  obtain ⟨t4, h4⟩ : ∃ v, pwN a b = v := ⟨_, rfl⟩
  obtain ⟨t5, h5⟩ : ∃ v, ivN a = v := ⟨_, rfl⟩
  obtain ⟨t6, h6⟩ : ∃ v, sbN b a = v := ⟨_, rfl⟩
  rw [h1] at C5 b8
  rw [h2] at C6 b9 C12
  rw [h3] at C7 b10
  rw [h4] at C8 b11
  rw [h5] at C9 b12
  rw [h6] at C11 C12
  clear h1 h2 h3 h4 h5 h6 hz hi hu hr lt
  go_enter Try.func7, Try.ntmps7
  go_wp2_with fail
  refine (shown9_any _).mono ?_
  rintro e w0 ⟨rfl, B0⟩
  have BW := belowStep (n := w.heap.size) (w := w) (by go_grown) (by simp <;> omega) B0
  have PA := ((Pb.new w x 30).below ((Below.refl _ _).alloc (Nat.le_refl _) _)).below B0
  have PB := (Pb.new' (w.alloc (.cells #[.int .u64 (x.A : Int), .int .u64 (x.B : Int)] 30)) y 30 (w.heap.size + 1) (by simp)).below B0
  clear B0
  obtain ⟨zPA, aPA, bPA, fPA⟩ := id PA
  obtain ⟨zPB, aPB, bPB, fPB⟩ := id PB
  go_wp2_with fail
  clear zPA aPA bPA fPA zPB aPB bPB fPB
  refine (C1 _).mono ?_
  rintro e w1 ⟨rfl, B1⟩
  replace PA := PA.below B1
  replace PB := PB.below B1
  replace BW := belowStep BW BW.size B1
  clear B1
  obtain ⟨zPA, aPA, bPA, fPA⟩ := id PA
  obtain ⟨zPB, aPB, bPB, fPB⟩ := id PB
  go_wp2_with fail
  clear zPA aPA bPA fPA zPB aPB bPB fPB
  refine (C2 _).mono ?_
  rintro e w2 ⟨rfl, B2⟩
  replace PA := PA.below B2
  replace PB := PB.below B2
  replace BW := belowStep BW BW.size B2
  clear B2
  obtain ⟨zPA, aPA, bPA, fPA⟩ := id PA
  obtain ⟨zPB, aPB, bPB, fPB⟩ := id PB
  go_wp2_with fail
  clear zPA aPA bPA fPA zPB aPB bPB fPB
  refine (C3 _).mono ?_
  rintro e w3 ⟨rfl, B3⟩
  have BA : Below w2.heap.size w2 (w2.alloc (.cells #[.int .u64 (z.A : Int), .int .u64 (z.B : Int)] 30)) := (Below.refl _ _).alloc (Nat.le_refl _) _
  replace BA := belowStep BA BA.size B3
  have PZ := (Pb.new w2 z 30).below B3
  replace PA := PA.below BA
  replace PB := PB.below BA
  replace BW := belowStep BW BW.size BA
  clear BA B3
  obtain ⟨zPA, aPA, bPA, fPA⟩ := id PA
  obtain ⟨zPB, aPB, bPB, fPB⟩ := id PB
  obtain ⟨zPZ, aPZ, bPZ, fPZ⟩ := id PZ
  go_wp2_with fail
  clear zPA aPA bPA fPA zPB aPB bPB fPB zPZ aPZ bPZ fPZ
  refine (C4 _).mono ?_
  rintro e w4 ⟨rfl, B4⟩
  have BA : Below w3.heap.size w3 (w3.alloc (.cells #[.int .u64 (i.A : Int), .int .u64 (i.B : Int)] 30)) := (Below.refl _ _).alloc (Nat.le_refl _) _
  replace BA := belowStep BA BA.size B4
  have PI := (Pb.new w3 i 30).below B4
  replace PA := PA.below BA
  replace PB := PB.below BA
  replace PZ := PZ.below BA
  replace BW := belowStep BW BW.size BA
  clear BA B4
  obtain ⟨zPA, aPA, bPA, fPA⟩ := id PA
  obtain ⟨zPB, aPB, bPB, fPB⟩ := id PB
  obtain ⟨zPZ, aPZ, bPZ, fPZ⟩ := id PZ
  obtain ⟨zPI, aPI, bPI, fPI⟩ := id PI
  go_wp2_with fail
  clear zPA aPA bPA fPA zPB aPB bPB fPB zPZ aPZ bPZ fPZ zPI aPI bPI fPI
  refine (C5 _).mono ?_
  rintro e w5 ⟨rfl, B5⟩
  have BA : Below w4.heap.size w4 (w4.alloc (.cells #[.int .u64 (u.A : Int), .int .u64 (u.B : Int)] 30)) := (Below.refl _ _).alloc (Nat.le_refl _) _
  replace BA := belowStep BA BA.size B5
  have PU := (Pb.new w4 u 30).below B5
  replace PA := PA.below BA
  replace PB := PB.below BA
  replace PZ := PZ.below BA
  replace PI := PI.below BA
  replace BW := belowStep BW BW.size BA
  clear BA B5
  obtain ⟨zPA, aPA, bPA, fPA⟩ := id PA
  obtain ⟨zPB, aPB, bPB, fPB⟩ := id PB
  obtain ⟨zPZ, aPZ, bPZ, fPZ⟩ := id PZ
  obtain ⟨zPI, aPI, bPI, fPI⟩ := id PI
  obtain ⟨zPU, aPU, bPU, fPU⟩ := id PU
  go_wp2_with fail
  clear zPA aPA bPA fPA zPB aPB bPB fPB zPZ aPZ bPZ fPZ zPI aPI bPI fPI zPU aPU bPU fPU
  refine (C6 _).mono ?_
  rintro e w6 ⟨rfl, B6⟩
  replace PA := PA.below B6
  replace PB := PB.below B6
  replace PZ := PZ.below B6
  replace PI := PI.below B6
  replace PU := PU.below B6
  replace BW := belowStep BW BW.size B6
  clear B6
  obtain ⟨zPA, aPA, bPA, fPA⟩ := id PA
  obtain ⟨zPB, aPB, bPB, fPB⟩ := id PB
  obtain ⟨zPZ, aPZ, bPZ, fPZ⟩ := id PZ
  obtain ⟨zPI, aPI, bPI, fPI⟩ := id PI
  obtain ⟨zPU, aPU, bPU, fPU⟩ := id PU
  go_wp2_with fail
  clear zPA aPA bPA fPA zPB aPB bPB fPB zPZ aPZ bPZ fPZ zPI aPI bPI fPI zPU aPU bPU fPU
  refine (C7 _).mono ?_
  rintro e w7 ⟨rfl, B7⟩
  replace PA := PA.below B7
  replace PB := PB.below B7
  replace PZ := PZ.below B7
  replace PI := PI.below B7
  replace PU := PU.below B7
  replace BW := belowStep BW BW.size B7
  clear B7
  obtain ⟨zPA, aPA, bPA, fPA⟩ := id PA
  obtain ⟨zPB, aPB, bPB, fPB⟩ := id PB
  obtain ⟨zPZ, aPZ, bPZ, fPZ⟩ := id PZ
  obtain ⟨zPI, aPI, bPI, fPI⟩ := id PI
  obtain ⟨zPU, aPU, bPU, fPU⟩ := id PU
  go_wp2_with fail
  clear zPA aPA bPA fPA zPB aPB bPB fPB zPZ aPZ bPZ fPZ zPI aPI bPI fPI zPU aPU bPU fPU
  refine (C8 _).mono ?_
  rintro e w8 ⟨rfl, B8⟩
  replace PA := PA.below B8
  replace PB := PB.below B8
  replace PZ := PZ.below B8
  replace PI := PI.below B8
  replace PU := PU.below B8
  replace BW := belowStep BW BW.size B8
  clear B8
  obtain ⟨zPA, aPA, bPA, fPA⟩ := id PA
  obtain ⟨zPB, aPB, bPB, fPB⟩ := id PB
  obtain ⟨zPZ, aPZ, bPZ, fPZ⟩ := id PZ
  obtain ⟨zPI, aPI, bPI, fPI⟩ := id PI
  obtain ⟨zPU, aPU, bPU, fPU⟩ := id PU
  go_wp2_with fail
  clear zPA aPA bPA fPA zPB aPB bPB fPB zPZ aPZ bPZ fPZ zPI aPI bPI fPI zPU aPU bPU fPU
  refine (C9 _).mono ?_
  rintro e w9 ⟨rfl, B9⟩
  replace PA := PA.below B9
  replace PB := PB.below B9
  replace PZ := PZ.below B9
  replace PI := PI.below B9
  replace PU := PU.below B9
  replace BW := belowStep BW BW.size B9
  clear B9
  obtain ⟨zPA, aPA, bPA, fPA⟩ := id PA
  obtain ⟨zPB, aPB, bPB, fPB⟩ := id PB
  obtain ⟨zPZ, aPZ, bPZ, fPZ⟩ := id PZ
  obtain ⟨zPI, aPI, bPI, fPI⟩ := id PI
  obtain ⟨zPU, aPU, bPU, fPU⟩ := id PU
  go_wp2_with fail
  clear zPA aPA bPA fPA zPB aPB bPB fPB zPZ aPZ bPZ fPZ zPI aPI bPI fPI zPU aPU bPU fPU
  have c0 := inClass (w := w9) (C6)
  have c1 := inClass (w := w9) (C11)
  have c2 := inClass (w := w9) (C12)
  have c3 := inClass (w := w9) (C10)
  have kPA := cell_regrown PA.a
  have lPA := cell_regrown PA.b
  have kPB := cell_regrown PB.a
  have lPB := cell_regrown PB.b
  have kPZ := cell_regrown PZ.a
  have lPZ := cell_regrown PZ.b
  have HV : Hid (_ ∧ _ ∧ _ ∧ _) := ⟨BW, PA, PB, PZ⟩
  clear BW PA PB PZ
  refine wp_region_quiet_below (by kernel_rfl) (by kernel_rfl) ?_
  iterate 4 (go_big_quiet_step (fail))
  go_big_quiet_step (exact c0 _ _)
  iterate 2 (go_big_quiet_step (fail))
  go_big_quiet_step (exact c1 _ _)
  go_big_quiet_step (exact c2 _ _)
  iterate 6 (go_big_quiet_step (fail))
  go_big_quiet_step (exact c3 _ _)
  iterate 3 (go_big_quiet_step (fail))
  refine wpQuiet_nil ?_
  intro w8 hw8
  have B8 : Below w9.heap.size w9 w8 := by
    obtain ⟨p, rfl⟩ := hw8
    exact below_regrown _ _ _
  obtain ⟨BW, PA, PB, PZ⟩ := HV.out
  replace BW := belowStep BW BW.size B8
  clear hw8 HV B8 kPA lPA kPB lPB kPZ lPZ c0 c1 c2 c3
  go_wp2
  go_ret
  exact ⟨rfl, BW⟩
end Go.Proofs.Ytmocimhhhnlldaa
