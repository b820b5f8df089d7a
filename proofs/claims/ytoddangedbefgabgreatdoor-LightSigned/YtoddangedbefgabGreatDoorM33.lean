/- Lemmas: What the reference's Hash, isSecret, Key, Sign do. No condition. What the reference's Key, Sign, sum, Sum do. No condition. What the reference's Sum, Holds, Verify, All do. No condition. What the reference's All does. No condition. -/
import Derived.Test.YtoddangedbefgabGreatDoorM14
import Derived.Test.YtoddangedbefgabGreatDoorM26
import Derived.Test.YtoddangedbefgabGreatDoorM22
set_option maxRecDepth 100000
set_option maxHeartbeats 4000000
namespace Go.Proofs.YtoddangedbefgabGreatDoor
open Go.RowKit Go.Shelf Go.Sort
theorem rgen_any (w : World) :
  Calls Tryz.prog 70 #[] w fun e w' => e = .returned (vT gN) ∧ Below w.heap.size w w' := by
 go_enter Tryz.func70, Tryz.ntmps70
 go_wp2_with fail
 refine bodyPost_ret (v := vT gN) (by simp [results, Tryz.results70, go_sem, gN, *]) rfl ⟨rfl, by go_grown⟩
theorem hs_at0 (t : ByteArray) (q : Nat) (hq : q < 256) (h : ∀ n, n < q → lfN (trN t n) = iN) (p : Pt) (hp : lfN (trN t q) = p) (hn : p ≠ iN) : hsN t = p :=
 hit_all (q := q + 1) hq ⟨trsT t q, trT t q, trsT_succ t q, fun x hx => by
  obtain ⟨n, hn, rfl⟩ := List.mem_map.1 hx
  exact h n (List.mem_range.1 hn), by show lfN (trN t q) ≠ iN; rw [hp]; exact hn, hp⟩
theorem join_one (t : ByteArray) (q : Nat) : t ++ oneB q = jcm [t, oneB q] := by
 apply ByteArray.ext
 apply Array.ext'
 simp [jcm, Lib.join, oneB, ByteArray.data_append]
theorem rhash_any (t : ByteArray) (ht : t.size ≤ 10000) (w : World) :
  Calls Tryz.prog 71 #[.string t] w fun e w' => e = .returned (vT (hsN t)) ∧ Below w.heap.size w w' := by
 obtain ⟨v, hv⟩ : ∃ v, hsN t = v := ⟨_, rfl⟩
 have HV : Hid (hsN t = v) := hv
 rw [hv]
 clear hv
 go_enter Tryz.func71, Tryz.ntmps71
 go_wp2_with fail
 go_loopg [3] 256 (fun gk i wr => ∃ k : Nat, k + gk = 256 ∧ i = .int .i64 (k : Int) ∧ Tb w.heap.size oP wr ∧ Below w.heap.size w wr ∧ Hid (∀ n, n < k → lfN (trN t n) = iN))
 case atStart => exact ⟨0, rfl, rfl, Tb.new' w oP 72 _ rfl, by go_grown, fun n hn => (by omega)⟩
 case round =>
  obtain ⟨k, hk, rfl, hT, hB, hno⟩ := hrel
  by_cases hlk : k < 256
  ·have l0 : (k : Int) < 256 := by omega
   have hcv := one_text k hlk wr
   have wq : IntKind.u8.wrap (k : Int) = k := by rw [IntKind.wrap_u8]; omega
   have h1 : (oneB k).size = 1 := rfl
   have hsz : ¬ 9223372036854775807 < t.size + (oneB k).size := by omega
   have hsz2 : t.size + (oneB k).size ≤ 9223372036854775807 := by omega
   have CS := jfz (t ++ oneB k) (by rw [ByteArray.size_append]; omega)
   rw [show jco (t ++ oneB k) = jco (jcm [t, oneB k]) by rw [join_one]] at CS
   have hsz0 := jex (jcm [t, oneB k])
   have hx0 := trN_lt t k
   have ex0 : trN t k = trX (jco (jcm [t, oneB k])) := rfl
   obtain ⟨s, hs⟩ : ∃ s, jco (jcm [t, oneB k]) = s := ⟨_, rfl⟩
   rw [hs] at hsz0 ex0 CS
   clear hs
   have HH : Hid (_ ∧ _) := ⟨hT, hB⟩
   clear hT hB
   go_wp2_with fail
   refine (CS _).mono ?_
   rintro e W1 ⟨rfl, B1⟩
   obtain ⟨hT, hB⟩ := HH.out
   have AL : Below wr.heap.size wr (wr.alloc (.cells #[.int .u8 (k : Int)] 5)) := (Below.refl _ _).alloc (Nat.le_refl _) _
   have BW1 := jaa AL AL.size B1
   have T1 := hT.below BW1
   have BX1 := jaa hB hB.size BW1
   clear HH hT hB AL B1 BW1 hcv CS wq hsz hsz2 h1
   have g0 := jbt s 0 (by omega)
   have g1 := jbt s 1 (by omega)
   have g2 := jbt s 2 (by omega)
   have g3 := jbt s 3 (by omega)
   have q0 := jbr s 0
   have q1 := jbr s 1
   have q2 := jbr s 2
   have q3 := jbr s 3
   rw [bt_N] at g0 g1 g2 g3
   obtain ⟨m1, m2, m3, n1, n2, F4⟩ := four_of _ _ _ _ q0 q1 q2 q3
   have hx4 := four_lt _ _ _ _ q0 q1 q2 q3
   have eX : trX s = fourN (btN s 0) (btN s 1) (btN s 2) (btN s 3) % PM := rfl
   obtain ⟨x, ex⟩ : ∃ x, fourN (btN s 0) (btN s 1) (btN s 2) (btN s 3) = x := ⟨_, rfl⟩
   rw [ex] at F4 hx4 eX
   obtain ⟨y0, e0⟩ : ∃ y, btN s 0 = y := ⟨_, rfl⟩
   obtain ⟨y1, e1⟩ : ∃ y, btN s 1 = y := ⟨_, rfl⟩
   obtain ⟨y2, e2⟩ : ∃ y, btN s 2 = y := ⟨_, rfl⟩
   obtain ⟨y3, e3⟩ : ∃ y, btN s 3 = y := ⟨_, rfl⟩
   rw [e0, e1, e2, e3] at F4
   rw [e0] at g0 q0
   rw [e1] at g1 q1
   rw [e2] at g2 q2
   rw [e3] at g3 q3
   rw [eX] at ex0
   clear ex e0 e1 e2 e3 eX
   obtain ⟨s1, s2, s3, o1, o2, o3⟩ := F4
   have t0 : IntKind.u64.wrap (y0 : Int) = (y0 : Int) := by rw [IntKind.wrap_u64]; omega
   have t1 : IntKind.u64.wrap (y1 : Int) = (y1 : Int) := by rw [IntKind.wrap_u64]; omega
   have t2 : IntKind.u64.wrap (y2 : Int) = (y2 : Int) := by rw [IntKind.wrap_u64]; omega
   have t3 : IntKind.u64.wrap (y3 : Int) = (y3 : Int) := by rw [IntKind.wrap_u64]; omega
   have h33 : 0 < s.size := by omega
   have h34 : 1 < s.size := by omega
   have h35 : 2 < s.size := by omega
   have h36 : 3 < s.size := by omega
   obtain ⟨v0, hv0⟩ : ∃ v : Nat, x % PM = v := ⟨_, rfl⟩
   have hvP : v0 < PM := by rw [← hv0]; exact Nat.mod_lt _ (by decide)
   have hrm : (x : Int) % 2147482867 = v0 := by rw [← hv0]; show (x : Int) % 2147482867 = ((x % 2147482867 : Nat) : Int); omega
   have hrm2 : (x : Int).tmod 2147482867 = v0 := by rw [Int.tmod_eq_emod_of_nonneg (by omega)]; exact hrm
   rw [hv0] at ex0
   have HX : Hid (trN t k = v0 ∧ Tb w.heap.size oP W1 ∧ Below w.heap.size w W1) := ⟨ex0, T1, BX1⟩
   clear hv0 ex0 T1 BX1 hx0
   go_wp2_with fail
   refine wp_region_quiet_below (by kernel_rfl) (by kernel_rfl) ?_
   repeat (quiet_step (fail))
   refine wpQuiet_nil ?_
   intro w8 hw8
   have B8 : Below W1.heap.size W1 w8 := by
    obtain ⟨p, rfl⟩ := hw8
    exact below_regrown _ _ _
   obtain ⟨ex0, T1, BX1⟩ := HX.out
   have T8 := T1.below B8
   have BX8 := jaa BX1 BX1.size B8
   clear hw8 B8 T1 BX1 g0 g1 g2 g3 q0 q1 q2 q3 s1 s2 s3 o1 o2 o3 t0 t1 t2 t3 h33 h34 h35 h36 hrm hrm2 hx4 HX
   have ux : U64 v0 := pm_u _ hvP
   have C1 := jbg v0 v0 ux ux
   have C2 := jbg v0 (muN v0 v0) ux (pm_u _ (jbq _ _))
   rw [mu_comm v0 (muN v0 v0)] at C2
   have C3 := jgb (muN (muN v0 v0) v0) v0 (pm_u _ (jbq _ _)) ux
   rw [show adN (muN (muN v0 v0) v0) v0 = sqN v0 from rfl] at C3
   have C4 := rroot_any (sqN v0) (pm_u _ (sq_lt _))
   have ho : roB (sqN v0) = true → onN ⟨v0, roN (sqN v0), false⟩ = true := fun h => on_ro hvP h
   have eL : lfN v0 = if roB (sqN v0) = true then tmN ⟨v0, roN (sqN v0), false⟩ 4 else iN := rfl
   have hr := ro_lt (sqN v0)
   obtain ⟨y, hy⟩ : ∃ y, sqN v0 = y := ⟨_, rfl⟩
   rw [hy] at C3 C4 ho hr eL
   obtain ⟨a, ea⟩ : ∃ a, muN v0 v0 = a := ⟨_, rfl⟩
   rw [ea] at C1 C2 C3
   obtain ⟨b, eb⟩ : ∃ b, muN a v0 = b := ⟨_, rfl⟩
   rw [eb] at C2 C3
   obtain ⟨r, er⟩ : ∃ r, roN y = r := ⟨_, rfl⟩
   rw [er] at C4 ho hr eL
   clear hy ea eb er
   have HX : Hid (_ ∧ _ ∧ _ ∧ _) := ⟨ex0, eL, T8, BX8⟩
   clear ex0 eL T8 BX8
   cases hb : roB y
   ·rw [hb] at C4
    clear ho
    go_wp2_with fail
    refine (C1 _).mono ?_
    rintro e w1 ⟨rfl, B1⟩
    go_wp2_with fail
    refine (C2 _).mono ?_
    rintro e w2 ⟨rfl, B2⟩
    go_wp2_with fail
    refine (C3 _).mono ?_
    rintro e w3 ⟨rfl, B3⟩
    go_wp2_with fail
    refine (C4 _).mono ?_
    rintro e w4 ⟨rfl, B4⟩
    obtain ⟨ex0, eL, T8, BX8⟩ := HX.out
    have BB := jaa (jaa (jaa B1 B1.size B2) (Nat.le_trans B1.size B2.size) B3) (Nat.le_trans B1.size (Nat.le_trans B2.size B3.size)) B4
    have HY : Hid (_ ∧ _ ∧ _) := ⟨T8.below BB, jaa BX8 BX8.size BB, (by rw [ex0, eL, hb, if_neg (by simp)] : lfN (trN t k) = iN)⟩
    clear B1 B2 B3 B4 BB T8 BX8 eL ex0 C1 C2 C3 C4 HX
    have hk1 : IntKind.i64.wrap ((k : Int) + 1) = ((k + 1 : Nat) : Int) := by rw [IntKind.wrap_i64]; omega
    go_wp2_with fail
    go_roundg (gk - 1)
    case measure => omega
    case rel => exact ⟨k + 1, by omega, rfl, HY.out.1, HY.out.2.1, fun n hn => by
     by_cases e : n = k
     ·rw [e]; exact HY.out.2.2
     ·exact hno.out n (by omega)⟩
   ·rw [hb] at C4
    have ho := ho hb
    have C5 := many_any 4 (by decide) ⟨v0, r, false⟩ (jbs ho)
    have wq := wl_tm _ (jbs ho) 4
    obtain ⟨q, hq⟩ : ∃ q, tmN ⟨v0, r, false⟩ 4 = q := ⟨_, rfl⟩
    rw [hq] at C5 wq
    have hle : lfN (trN t k) = q := by rw [HX.out.1, HX.out.2.1, hb, if_pos rfl, hq]
    have HQ : Hid (lfN (trN t k) = q) := hle
    clear hle ho hq
    go_wp2_with fail
    refine (C1 _).mono ?_
    rintro e w1 ⟨rfl, B1⟩
    go_wp2_with fail
    refine (C2 _).mono ?_
    rintro e w2 ⟨rfl, B2⟩
    go_wp2_with fail
    refine (C3 _).mono ?_
    rintro e w3 ⟨rfl, B3⟩
    go_wp2_with fail
    refine (C4 _).mono ?_
    rintro e w4 ⟨rfl, B4⟩
    obtain ⟨ex0, eL, T8, BX8⟩ := HX.out
    have BB := jaa (jaa (jaa B1 B1.size B2) (Nat.le_trans B1.size B2.size) B3) (Nat.le_trans B1.size (Nat.le_trans B2.size B3.size)) B4
    have T4 := T8.below BB
    have BX4 := jaa BX8 BX8.size BB
    clear B1 B2 B3 B4 BB T8 BX8 eL ex0 C1 C2 C3 C4 HX
    go_wp2_with fail
    refine (C5 _).mono ?_
    rintro e w5 ⟨rfl, B5⟩
    have T5 := T4.below B5
    have BX5 := jaa BX4 BX4.size B5
    clear T4 BX4 B5 C5
    have AP : Below w5.heap.size w5 (w5.alloc (.cells #[.int .u64 (q.X : Int), .int .u64 (q.Y : Int), .bool q.I] 72)) := (Below.refl _ _).alloc (Nat.le_refl _) _
    have T6 := T5.below AP
    have BX6 := jaa BX5 BX5.size AP
    by_cases hi : q = iN
    ·have HY : Hid (_ ∧ _ ∧ _) := ⟨T6, BX6, HQ.out.trans hi⟩
     subst hi
     clear T5 BX5 AP T6 BX6 wq
     have hk1 : IntKind.i64.wrap ((k : Int) + 1) = ((k + 1 : Nat) : Int) := by rw [IntKind.wrap_i64]; omega
     simp only [vT, iN] at HY ⊢
     go_wp2_with fail
     go_roundg (gk - 1)
     case measure => omega
     case rel => exact ⟨k + 1, by omega, rfl, HY.out.1, HY.out.2.1, fun n hn => by
      by_cases e : n = k
      ·rw [e]; exact HY.out.2.2
      ·exact hno.out n (by omega)⟩
    ·have hI := wl_i wq hi
     have hv : v = q := by rw [← HV.out]; exact hs_at0 t k hlk hno.out q HQ.out hi
     subst hv
     have ⟨tz, t0, t1, t2, tf⟩ := T5
     have n1 : w.heap.size ≠ w5.heap.size := by omega
     have n2 : w5.heap.size ≠ w.heap.size := by omega
     have HY : Hid _ := BX5
     have n3 : ∀ o, (w5.alloc o).frozen? ⟨w.heap.size, 0, none⟩ = false := fun o => ((T5.alloc o).f 0)
     have n4 : ∀ o, (w5.alloc o).frozen? ⟨w.heap.size, 1, none⟩ = false := fun o => ((T5.alloc o).f 1)
     have n5 : ∀ o, (w5.alloc o).frozen? ⟨w.heap.size, 2, none⟩ = false := fun o => ((T5.alloc o).f 2)
     clear T5 BX5 AP T6 BX6 wq hi HV HQ
     obtain ⟨vX, vY, vI⟩ := v
     simp only at hI
     subst hI
     go_wp2_with fail
     refine bodyPost_ret (v := vT ⟨vX, vY, false⟩) (by simp [results, Tryz.results71, go_sem, *]) rfl ⟨rfl, ?_⟩
     have b3 := jah HY.out (Nat.le_refl _) ⟨vX, vY, false⟩
     exact b3.alloc b3.size _
  ·obtain rfl : k = 256 := by omega
   have hv : v = gN := by rw [← HV.out]; exact no_all (fun x hx => by
    obtain ⟨n, hn, rfl⟩ := List.mem_map.1 hx
    exact hno.out n (List.mem_range.1 hn))
   subst hv
   have ⟨tz, t0, t1, t2, tf⟩ := hT
   have HH : Hid (_ ∧ _) := ⟨hT, hB⟩
   clear hT hB
   go_wp2_with fail
   refine (rgen_any _).mono ?_
   rintro e w1 ⟨rfl, B1⟩
   obtain ⟨hT, hB⟩ := HH.out
   have ⟨tz, t0, t1, t2, tf⟩ := hT.below B1
   have BW := jaa hB hB.size B1
   go_wp2_with fail
   refine bodyPost_ret (v := vT gN) (by simp [results, Tryz.results71, go_sem, *]) rfl ⟨rfl, ?_⟩
   exact jah BW (Nat.le_refl _) gN
def rsV (o : Option Pt) : Value := match o with
 | some p => .tuple #[vT p, .bool true]
 | none => .tuple #[vT oP, .bool false]
theorem els_take_succ {b : Bool} {l : List ByteArray} {k : Nat} {s : ByteArray} (hs : l[k]? = some s) : (elsT b l).take (k + 1) = (elsT b l).take k ++ [elN b s] := by
 rw [List.take_add_one]
 congr 1
 unfold elsT
 rw [List.getElem?_map, hs]
 rfl
theorem rsum12_any (l : List ByteArray) (hl : l.length ≤ 1000) (a : Option Addr) (c : Nat) (w : World) (hT : txS l a w) :
  Calls Tryz.prog 33 #[.slice a l.length c] w fun e w' => e = .returned (rsV (toE iN (elsT false l))) ∧ Below w.heap.size w w' := by
 obtain ⟨v, hv⟩ : ∃ v, rsV (toE iN (elsT false l)) = v := ⟨_, rfl⟩
 have HV : Hid (rsV (toE iN (elsT false l)) = v) := hv
 rw [hv]
 clear hv
 obtain ⟨N, hN⟩ : ∃ N, l.length = N := ⟨_, rfl⟩
 have HN : Hid (l.length = N) := hN
 rw [hN] at hl ⊢
 clear hN
 go_enter Tryz.func33, Tryz.ntmps33
 go_wp2_with fail
 refine (none_any _).mono ?_
 rintro e w1 ⟨rfl, B1⟩
 have A0 : Below w.heap.size w (w.alloc (.cells #[.int .u64 0, .int .u64 0, .bool false] 72)) := (Below.refl _ _).alloc (Nat.le_refl _) _
 have O1 : Tb w.heap.size oP w1 := (Tb.new' w oP 72 _ rfl).below B1
 have BW1 := jaa A0 A0.size B1
 have T1 := hT.below BW1
 have hzm : w.heap.size < w1.heap.size := O1.z
 have A1 : Below w1.heap.size w1 (w1.alloc (.cells #[.int .u64 ((iN.X : Nat) : Int), .int .u64 ((iN.Y : Nat) : Int), .bool iN.I] 72)) := (Below.refl _ _).alloc (Nat.le_refl _) _
 have H0 : Hid (_ ∧ _ ∧ _ ∧ _) := ⟨O1.below A1, T1.below A1, jaa BW1 BW1.size A1, Tb.new' w1 iN 72 _ rfl⟩
 have HTw : Hid (txS l a w) := hT
 clear A0 O1 BW1 T1 A1 B1 hT
 go_wp2_with fail
 obtain ⟨z, hz⟩ : ∃ c, w.heap.size = c := ⟨_, rfl⟩
 have HZ : Hid (w.heap.size = z) := hz
 obtain ⟨m, hm⟩ : ∃ c, w1.heap.size = c := ⟨_, rfl⟩
 rw [hz, hm] at hzm ⊢
 rw [hz, hm] at H0
 go_loopg [5] N (fun gk i wr => ∃ k : Nat, k + gk = N ∧ i = .int .i64 (k : Int) ∧ m < wr.heap.size ∧ Hid (Tb z oP wr ∧ txS l a wr ∧ Below z w wr ∧ ∃ q, toE iN ((elsT false l).take k) = some q ∧ grN q = true ∧ Tb m q wr))
 case atStart =>
  obtain ⟨h1, h2, h3, h4⟩ := H0.out
  exact ⟨0, by omega, rfl, h4.z, h1, h2, h3, iN, rfl, gr_inf, h4⟩
 case round =>
  obtain ⟨k, hk, rfl, hmz, HI⟩ := hrel
  clear H0
  by_cases hlk : k < N
  ·have l0 : (k : Int) < N := by omega
   obtain ⟨hO, hT, hB, q, htk, hqg, hM⟩ := HI.out
   obtain ⟨s, hs⟩ : ∃ s, l[k]? = some s := ⟨l[k]'(by rw [HN.out]; omega), by simp [HN.out, hlk]⟩
   have hne : l ≠ [] := fun e => by rw [e] at hs; cases hs
   have hTw := HTw.out
   obtain ⟨B0, o, rfl, hB0, hcs⟩ := hT.resolve_left hne
   have hcell := hcs k s hs
   have CF := rfrom_any s
   have hsn := toE_app iN ((elsT false l).take k) [elN false s]
   rw [← els_take_succ hs, htk] at hsn
   have hk1 : IntKind.i64.wrap ((k : Int) + 1) = ((k + 1 : Nat) : Int) := by rw [IntKind.wrap_i64]; omega
   have HH : Hid (_ ∧ _ ∧ _ ∧ _ ∧ _) := ⟨hO, hT, hB, hqg, hM⟩
   clear hO hT hB htk hcs hne
   cases hf : frB s
   ·have eV : frV s = errT := by unfold frV; rw [hf]; rfl
    rw [eV] at CF
    have e3 : v = .tuple #[vT oP, .bool false] := by
     have e0 : toE q [elN false s] = none := by
      rw [toE]
      unfold elN
      rw [dif_neg (fun h => by rw [hf] at h; cases h.1)]
     have e1 : toE iN ((elsT false l).take (k + 1)) = none := by rw [hsn]; exact e0
     have e2 := toE_none (k := (elsT false l).drop (k + 1)) e1
     rw [List.take_append_drop] at e2
     rw [← HV.out, e2]
     rfl
    subst e3
    clear hM hsn hs hqg HI
    go_wp2_with fail
    refine (CF _).mono ?_
    rintro e w2 ⟨rfl, B2⟩
    obtain ⟨hO, hT, hB, hqg, hM⟩ := HH.out
    have O2 := hO.below B2
    have ⟨tz, t0, t1, t2, tf⟩ := O2
    have BW2 := jaa hB (by have := hO.z; omega) B2
    have n1 : z ≠ w2.heap.size := by omega
    have n2 : w2.heap.size ≠ z := by omega
    have n3 : ∀ o, (w2.alloc o).frozen? ⟨z, 0, none⟩ = false := fun o => ((O2.alloc o).f 0)
    have n4 : ∀ o, (w2.alloc o).frozen? ⟨z, 1, none⟩ = false := fun o => ((O2.alloc o).f 1)
    have n5 : ∀ o, (w2.alloc o).frozen? ⟨z, 2, none⟩ = false := fun o => ((O2.alloc o).f 2)
    have HB : Hid _ := BW2
    clear hO hT hB hM B2 O2 BW2 CF HH hcell hB0
    go_wp2_with fail
    refine bodyPost_ret (v := .tuple #[vT oP, .bool false]) (by simp [results, Tryz.results33, go_sem, oP, *]) rfl ⟨rfl, ?_⟩
    have b3 := jah HB.out (Nat.le_refl _) oP
    rw [HZ.out]
    exact b3.alloc (by rw [jdh]; omega) _
   ·have eV : frV s = okT (nmN s) := by unfold frV; rw [hf]; rfl
    rw [eV] at CF
    have hng := fr_gr hf
    have e1 : toE iN ((elsT false l).take (k + 1)) = some (smN q (nmN s)) := by
     rw [hsn]
     show toE q [elN false s] = _
     rw [toE]
     unfold elN
     rw [dif_pos ⟨hf, fun h => by cases h.1⟩]
     rfl
    have CP := jgc q (nmN s) (jbs (jdu hqg)) (jbs (jdu hng))
    have hsg := gr_sm hqg hng
    obtain ⟨p, hp⟩ : ∃ p, nmN s = p := ⟨_, rfl⟩
    rw [hp] at CF CP hsg e1
    obtain ⟨r, hr⟩ : ∃ r, smN q p = r := ⟨_, rfl⟩
    rw [hr] at CP hsg e1
    have HE : Hid (_ ∧ _) := ⟨e1, hsg⟩
    clear hM hsn hs hqg HI hp hr e1 hsg hng eV hf
    go_wp2_with fail
    refine (CF _).mono ?_
    rintro e w2 ⟨rfl, B2⟩
    obtain ⟨hO, hT, hB, hqg, hM⟩ := HH.out
    have AP : Below w2.heap.size w2 (w2.alloc (.cells #[.int .u64 (p.X : Int), .int .u64 (p.Y : Int), .bool p.I] 72)) := (Below.refl _ _).alloc (Nat.le_refl _) _
    have B3 := jaa B2 B2.size AP
    have M2 := hM.below B2
    have ⟨mz, m0, m1, m2', mf⟩ := M2
    have n1 : m ≠ w2.heap.size := by omega
    have n2 : w2.heap.size ≠ m := by omega
    have H3 : Hid (_ ∧ _ ∧ _ ∧ _) := ⟨hO.below B3, hT.below B3, jaa hB (by have := hO.z; omega) B3, hM.below B3⟩
    clear hO hT hB hM hqg B2 AP B3 M2 CF HH hcell hB0
    go_wp2_with fail
    refine (CP _).mono ?_
    rintro e w4 ⟨rfl, B4⟩
    obtain ⟨hO, hT, hB, hM⟩ := H3.out
    have O4 := hO.below B4
    have T4 := hT.below B4
    have BW4 := jaa hB (by have := hO.z; omega) B4
    have M4 := hM.below B4
    clear m0 m1 m2' mf mz n1 n2
    have ⟨mz, m0, m1, m2', mf⟩ := M4
    have b3 : Below z w (Go.Proofs.YtoddangedbefgabGreatDoor.put3 m r w4) := jah BW4 (by omega) r
    have o3 : Tb z oP (Go.Proofs.YtoddangedbefgabGreatDoor.put3 m r w4) := O4.other r (by omega)
    have m3 : Tb m r (Go.Proofs.YtoddangedbefgabGreatDoor.put3 m r w4) := M4.over r
    have t3 : txS l (some ⟨B0, o, none⟩) (Go.Proofs.YtoddangedbefgabGreatDoor.put3 m r w4) := hTw.below (hz ▸ b3)
    have H4 : Hid (_ ∧ _ ∧ _ ∧ _) := ⟨o3, t3, b3, m3⟩
    clear hO hT hB hM O4 T4 BW4 M4 B4 b3 o3 m3 t3 H3 CP
    go_wp2_with fail
    go_roundg (gk - 1)
    case measure => omega
    case rel =>
     obtain ⟨o3, t3, b3, m3⟩ := H4.out
     exact ⟨k + 1, by omega, rfl, m3.z, o3, t3, b3, r, HE.out.1, HE.out.2, m3⟩
  ·obtain rfl : k = N := by omega
   have l0 : ¬ (k : Int) < k := by omega
   obtain ⟨hO, hT, hB, q, htk, hqg, hM⟩ := HI.out
   have e2 : (elsT false l).take k = elsT false l := List.take_of_length_le (by unfold elsT; rw [List.length_map, HN.out]; exact Nat.le_refl _)
   have e3 : v = .tuple #[vT q, .bool true] := by
    rw [e2] at htk
    rw [← HV.out, htk]
    rfl
   subst e3
   have ⟨tz, t0, t1, t2, tf⟩ := hO
   have ⟨mz, m0, m1, m2', mf⟩ := hM
   have HB : Hid _ := hB
   clear hB hO hT hM htk hqg HI e2
   go_wp2_with fail
   refine bodyPost_ret (v := .tuple #[vT q, .bool true]) (by simp [results, Tryz.results33, go_sem, *]) rfl ⟨rfl, ?_⟩
   exact jah HB.out (Nat.le_refl _) q
def rhB (k : Pt) (t : ByteArray) (s : Pt) : Bool := !decide (k = iN) && eqP (prN s gN) (prN (hsN t) k)
theorem rholds_any (k s : Pt) (hk : grN k = true) (hs : grN s = true) (t : ByteArray) (ht : t.size ≤ 10000) (w : World) :
  Calls Tryz.prog 34 #[vT k, .string t, vT s] w fun e w' => e = .returned (.bool (rhB k t s)) ∧ Below w.heap.size w w' := by
 unfold rhB
 by_cases hi : k = iN
 ·rw [decide_eq_true hi]
  subst hi
  rw [Bool.not_true, Bool.false_and]
  simp only [vT, iN]
  go_enter Tryz.func34, Tryz.ntmps34
  go_wp2_with fail
  go_ret
  exact ⟨rfl, by go_grown⟩
 ·have hI := wl_i (jbs (jdu hk)) hi
  rw [decide_eq_false hi, Bool.not_false, Bool.true_and]
  have hg := (hs_gr t).1
  have CH := rhash_any t ht
  have P1 := rpaired_any s gN (jdu hs) on_gen
  have P2' := rpaired_any (hsN t) k (jdu hg) (jdu hk)
  have hE := eqlP (prN s gN) (prN (hsN t) k)
  obtain ⟨h, eh⟩ : ∃ h, hsN t = h := ⟨_, rfl⟩
  rw [eh] at CH P2' hE ⊢
  obtain ⟨x, ex⟩ : ∃ x, prN s gN = x := ⟨_, rfl⟩
  rw [ex] at P1 hE ⊢
  obtain ⟨y, ey⟩ : ∃ y, prN h k = y := ⟨_, rfl⟩
  rw [ey] at P2' hE ⊢
  clear eh ex ey hg hi
  have CG := rgen_any
  obtain ⟨kX, kY, kI⟩ := k
  simp only at hI
  subst hI
  go_enter Tryz.func34, Tryz.ntmps34
  go_wp2_with fail
  refine wpOf (fun V => Below w.heap.size w V ∧ Tb w.heap.size ⟨kX, kY, false⟩ V ∧ Tb (w.heap.size + 1) s V) ⟨by go_grown, (Tb.new' w ⟨kX, kY, false⟩ 72 _ rfl).alloc _, Tb.new' _ s 72 _ (by simp)⟩ ?_
  rintro V ⟨BV, TKV, TSV⟩
  have cg := jae (w := V) CG
  have c1 := jae (w := V) P1
  have c2 := jae (w := V) P2'
  have ch := jae (w := V) CH
  have k0 := cell_regrown TKV.a
  have k1 := cell_regrown TKV.b
  have k2 := cell_regrown TKV.c
  have k3 := cell_regrown TSV.a
  have k4 := cell_regrown TSV.b
  have k5 := cell_regrown TSV.c
  have HV : Hid _ := BV
  clear BV TKV TSV CG P1 P2' CH
  refine wp_region_quiet_below (by kernel_rfl) (by kernel_rfl) ?_
  quiet_step (fail)
  quiet_step (exact cg _ _)
  quiet_step (exact c1 _ _)
  quiet_step (fail)
  quiet_step (exact ch _ _)
  quiet_step (fail)
  quiet_step (exact c2 _ _)
  repeat (quiet_step (fail))
  refine wpQuiet_nil ?_
  intro w8 hw8
  have B8 : Below V.heap.size V w8 := by
   obtain ⟨p, rfl⟩ := hw8
   exact below_regrown _ _ _
  have BW8 := jaa HV.out HV.out.size B8
  clear hw8 B8 HV cg c1 c2 ch k0 k1 k2 k3 k4 k5
  go_wp2
  go_ret
  exact ⟨rfl, BW8⟩
theorem okT_inj {p q : Pt} (h : okT p = okT q) : p = q := by
 obtain ⟨a, b, c⟩ := p
 obtain ⟨x, y, z⟩ := q
 simp at h
 obtain ⟨h1, h2, h3⟩ := h
 have h1 : a = x := by omega
 have h2 : b = y := by omega
 subst h1 h2 h3
 rfl
theorem zero_iff {s : ByteArray} (h : frB s = true) : nmN s = iN ↔ s = zero5 := by
 constructor
 ·intro e
  unfold frB at h
  simp only [Bool.and_eq_true, decide_eq_true_eq] at h
  rw [e] at h
  exact h.2.symm
 ·intro e
  have := fr_zero
  rw [← e] at this
  unfold frV at this
  rw [h, if_pos rfl] at this
  exact okT_inj this
def zeB : List ByteArray → Bool
 | [] => false
 | s :: l => decide (s = zero5) || zeB l
theorem ze_app (l : List ByteArray) (s : ByteArray) : zeB (l ++ [s]) = (zeB l || decide (s = zero5)) := by
 induction l with
 | nil => simp [zeB]
 | cons x l ih => rw [List.cons_append, zeB, zeB, ih, Bool.or_assoc]
theorem ze_pre {l : List ByteArray} (k : Nat) (h : zeB (l.take k) = true) : zeB l = true := by
 induction l generalizing k with
 | nil => rw [List.take_nil] at h; exact h
 | cons x l ih =>
  cases k with
  | zero => cases h
  | succ k =>
   rw [List.take_succ_cons, zeB, Bool.or_eq_true] at h
   rw [zeB, Bool.or_eq_true]
   exact h.imp id (ih k)
theorem els_bar : ∀ (l : List ByteArray) (m : Pt), toE m (elsT true l) = if zeB l = true then none else toE m (elsT false l)
 | [], m => by rw [if_neg (by simp [zeB])]; rfl
 | s :: l, m => by
  show toE m (elN true s :: elsT true l) = if (decide (s = zero5) || zeB l) = true then none else toE m (elN false s :: elsT false l)
  cases hf : frB s
  ·have e1 : (elN true s).val = none := by unfold elN; rw [dif_neg (fun h => by rw [hf] at h; cases h.1)]
   have e2 : (elN false s).val = none := by unfold elN; rw [dif_neg (fun h => by rw [hf] at h; cases h.1)]
   simp only [toE, e1, e2]
   split <;> rfl
  ·have e2 : (elN false s).val = some (nmN s) := by unfold elN; rw [dif_pos ⟨hf, fun h => by cases h.1⟩]
   by_cases hz : s = zero5
   ·have e1 : (elN true s).val = none := by unfold elN; rw [dif_neg (fun h => h.2 ⟨rfl, (zero_iff hf).2 hz⟩)]
    simp only [toE, e1]
    rw [decide_eq_true hz]
    rfl
   ·have e1 : (elN true s).val = some (nmN s) := by unfold elN; rw [dif_pos ⟨hf, fun h => hz ((zero_iff hf).1 h.2)⟩]
    simp only [toE, e1, e2]
    rw [els_bar l, decide_eq_false hz, Bool.false_or]
theorem al_is (l : List ByteArray) (t s : ByteArray) : alB l t s = (frB s && match toE iN (elsT false l) with
  | some k => !decide (l.length = 0) && (!zeB l && rhB k t (nmN s))
  | none => false) := by
 unfold alB
 rw [els_bar]
 cases hm : zeB l
 ·rw [if_neg (by simp)]
  cases l with
  | nil =>
   show hoB iN t s = _
   unfold hoB
   simp [elsT, toE]
  | cons x l =>
   cases toE iN (elsT false (x :: l)) with
   | none => simp
   | some k => simp [hoB, rhB]
 ·rw [if_pos rfl]
  cases toE iN (elsT false l) with
  | none => simp
  | some k => simp
theorem rall_any (l : List ByteArray) (hl : l.length ≤ 1000) (t s : ByteArray) (ht : t.size ≤ 10000) (a : Option Addr) (c : Nat) (w : World) (hT : txS l a w) :
  Calls Tryz.prog 13 #[.slice a l.length c, .string t, .string s] w fun e w' => e = .returned (.bool (alB l t s)) ∧ Below w.heap.size w w' := by
 rw [al_is]
 have CS := rfrom_any s
 have CU : ∀ W, txS l a W → _ := fun W h => rsum12_any l hl a c W h
 have hgr := toE_gr (elsT false l) iN
 obtain ⟨o, ho⟩ : ∃ o, toE iN (elsT false l) = o := ⟨_, rfl⟩
 rw [ho] at CU ⊢
 have hgr : ∀ q, o = some q → grN q = true := fun q e => hgr q gr_inf (by rw [ho, e])
 clear ho
 obtain ⟨q, f, e2⟩ : ∃ (p : Pt) (d : Int), frV s = .tuple #[vT p, .int .i64 d] := by unfold frV; split <;> exact ⟨_, _, rfl⟩
 rw [e2] at CS
 have hfr : frB s = decide (f = 0) ∧ (f = 0 → nmN s = q ∧ grN q = true) := by
  unfold frV at e2
  cases h : frB s
  ·rw [h] at e2; simp at e2
   obtain ⟨_, rfl⟩ := e2
   exact ⟨rfl, fun h => by cases h⟩
  ·rw [h, if_pos rfl] at e2
   have hf : f = 0 := by simp at e2; exact e2.2.symm
   subst hf
   have k := okT_inj e2
   exact ⟨rfl, fun _ => ⟨k, by rw [← k]; exact fr_gr h⟩⟩
 rw [hfr.1]
 have hfr := hfr.2
 obtain ⟨N, hN⟩ : ∃ N, l.length = N := ⟨_, rfl⟩
 have HN : Hid (l.length = N ∧ txS l a w) := ⟨hN, hT⟩
 rw [hN] at CU hl ⊢
 clear hT hN e2
 by_cases hf : f = 0
 ·obtain ⟨kq, gq⟩ := hfr hf
  rw [decide_eq_true hf, Bool.true_and, kq]
  subst hf
  clear hfr kq
  cases o with
  | none =>
   unfold rsV at CU
   show Calls Tryz.prog 13 #[.slice a N c, .string t, .string s] w fun e w' => e = .returned (.bool false) ∧ Below w.heap.size w w'
   go_enter Tryz.func13, Tryz.ntmps13
   go_wp2_with fail
   refine (CS _).mono ?_
   rintro e w1 ⟨rfl, B1⟩
   have A1 : Below w1.heap.size w1 (w1.alloc (.cells #[.int .u64 (q.X : Int), .int .u64 (q.Y : Int), .bool q.I] 72)) := (Below.refl _ _).alloc (Nat.le_refl _) _
   have BW1 := jaa B1 B1.size A1
   have H1 : Hid _ := BW1
   clear B1 A1 BW1 CS
   go_wp2_with fail
   refine (CU _ (HN.out.2.below H1.out)).mono ?_
   rintro e w2 ⟨rfl, B2⟩
   have BW2 := jaa H1.out H1.out.size B2
   clear H1 B2 CU HN
   go_wp2_with fail
   go_ret
   exact ⟨rfl, BW2.alloc BW2.size _⟩
  | some p =>
   unfold rsV at CU
   have hp := hgr p rfl
   by_cases hl0 : N = 0
   ·rw [decide_eq_true hl0]
    subst hl0
    show Calls Tryz.prog 13 #[.slice a 0 c, .string t, .string s] w fun e w' => e = .returned (.bool false) ∧ Below w.heap.size w w'
    go_enter Tryz.func13, Tryz.ntmps13
    go_wp2_with fail
    refine (CS _).mono ?_
    rintro e w1 ⟨rfl, B1⟩
    have A1 : Below w1.heap.size w1 (w1.alloc (.cells #[.int .u64 (q.X : Int), .int .u64 (q.Y : Int), .bool q.I] 72)) := (Below.refl _ _).alloc (Nat.le_refl _) _
    have BW1 := jaa B1 B1.size A1
    have H1 : Hid _ := BW1
    clear B1 A1 BW1 CS
    go_wp2_with fail
    refine (CU _ (HN.out.2.below H1.out)).mono ?_
    rintro e w2 ⟨rfl, B2⟩
    have BW2 := jaa H1.out H1.out.size B2
    clear H1 B2 CU HN
    go_wp2_with fail
    go_ret
    exact ⟨rfl, BW2.alloc BW2.size _⟩
   ·rw [decide_eq_false hl0]
    show Calls Tryz.prog 13 #[.slice a N c, .string t, .string s] w fun e w' => e = .returned (.bool (!zeB l && rhB p t q)) ∧ Below w.heap.size w w'
    have hN0 : 0 < N := by omega
    have hNb : ((N : Int) == 0) = false := by rw [beq_eq_false_iff_ne]; omega
    have hNb2 : ¬ (N : Int) = 0 := by omega
    have CH := rholds_any p q hp gq t ht
    obtain ⟨r, hr⟩ : ∃ r, (!zeB l && rhB p t q) = r := ⟨_, rfl⟩
    rw [hr]
    have HR : Hid ((!zeB l && rhB p t q) = r) := hr
    clear hr hp gq hgr
    obtain ⟨d, hd⟩ : ∃ d, rhB p t q = d := ⟨_, rfl⟩
    rw [hd] at CH HR
    clear hd
    go_enter Tryz.func13, Tryz.ntmps13
    go_wp2_with fail
    refine (CS _).mono ?_
    rintro e w1 ⟨rfl, B1⟩
    have A1 : Below w1.heap.size w1 (w1.alloc (.cells #[.int .u64 (q.X : Int), .int .u64 (q.Y : Int), .bool q.I] 72)) := (Below.refl _ _).alloc (Nat.le_refl _) _
    have BW1 := jaa B1 B1.size A1
    have T1 : Tb w1.heap.size q (w1.alloc (.cells #[.int .u64 (q.X : Int), .int .u64 (q.Y : Int), .bool q.I] 72)) := Tb.new' w1 q 72 _ rfl
    have H1 : Hid (_ ∧ _) := ⟨BW1, T1⟩
    clear B1 A1 BW1 T1 CS
    go_wp2_with fail
    refine (CU _ (HN.out.2.below H1.out.1)).mono ?_
    rintro e w2 ⟨rfl, B2⟩
    have A2 : Below w2.heap.size w2 (w2.alloc (.cells #[.int .u64 (p.X : Int), .int .u64 (p.Y : Int), .bool p.I] 72)) := (Below.refl _ _).alloc (Nat.le_refl _) _
    have B3 := jaa B2 B2.size A2
    have BW3 := jaa H1.out.1 H1.out.1.size B3
    have T3 := H1.out.2.below B3
    have P3 : Tb w2.heap.size p (w2.alloc (.cells #[.int .u64 (p.X : Int), .int .u64 (p.Y : Int), .bool p.I] 72)) := Tb.new' w2 p 72 _ rfl
    have H3 : Hid (_ ∧ _ ∧ _ ∧ _) := ⟨BW3, T3, P3, HN.out.2.below BW3⟩
    clear H1 B2 A2 B3 BW3 T3 P3 CU
    go_wp2_with fail
    go_loopg [11] N (fun gk i wr => ∃ k : Nat, k + gk = N ∧ i = .int .i64 (k : Int) ∧ Hid (Below w.heap.size w wr ∧ Tb w1.heap.size q wr ∧ Tb w2.heap.size p wr ∧ txS l a wr ∧ zeB (l.take k) = false))
    case atStart =>
     obtain ⟨h1, h2, h3, h4⟩ := H3.out
     exact ⟨0, by omega, rfl, h1, h2, h3, h4, rfl⟩
    case round =>
     obtain ⟨k, hk, rfl, HI⟩ := hrel
     clear H3
     by_cases hlk : k < N
     ·have l0 : (k : Int) < N := by omega
      obtain ⟨h1, h2, h3, h4, h5⟩ := HI.out
      obtain ⟨x, hx⟩ : ∃ s, l[k]? = some s := ⟨l[k]'(by rw [HN.out.1]; omega), by simp [HN.out.1, hlk]⟩
      have hne : l ≠ [] := fun e => by rw [e] at hx; cases hx
      obtain ⟨B0, o, rfl, hB0, hcs⟩ := h4.resolve_left hne
      have hcell := hcs k x hx
      have htk : l.take (k + 1) = l.take k ++ [x] := by rw [List.take_add_one, hx]; rfl
      have hze := ze_app (l.take k) x
      rw [← htk, h5, Bool.false_or] at hze
      have hk1 : IntKind.i64.wrap ((k : Int) + 1) = ((k + 1 : Nat) : Int) := by rw [IntKind.wrap_i64]; omega
      have HH : Hid _ := h1
      by_cases hz : x = zero5
      ·have hr : r = false := by
        rw [← HR.out, ze_pre (k + 1) (by rw [hze]; exact decide_eq_true hz)]
        rfl
       subst hr
       rw [hz, jfs] at hcell
       clear h1 h2 h3 h4 h5 HI hze htk hcs hne hx hz CH
       go_wp2_with fail
       go_ret
       exact ⟨rfl, HH.out⟩
      ·rw [decide_eq_false hz] at hze
       have hz' : (x.toList == [0, 0, 0, 0, 0]) = false := by
        have h := ne_list hz
        rw [jfs, show (⟨#[0, 0, 0, 0, 0]⟩ : ByteArray).toList = [0, 0, 0, 0, 0] by decide +kernel] at h
        exact h
       have HZ : Hid (_ ∧ _ ∧ _ ∧ _ ∧ _) := ⟨h1, h2, h3, h4, hze⟩
       clear h1 h2 h3 h4 h5 HI hze htk hcs hne hx hz CH
       go_wp2_with fail
       go_roundg (gk - 1)
       case measure => omega
       case rel => exact ⟨k + 1, by omega, rfl, HZ.out⟩
     ·obtain rfl : k = N := by omega
      have l0 : ¬ (k : Int) < k := by omega
      obtain ⟨h1, h2, h3, h4, h5⟩ := HI.out
      rw [List.take_of_length_le (by rw [HN.out.1]; exact Nat.le_refl _)] at h5
      have hr : r = d := by rw [← HR.out, h5]; cases d <;> rfl
      subst hr
      have ⟨tz, t0, t1, t2, tf⟩ := h2
      have ⟨pz, p0, p1, p2, pf⟩ := h3
      have HH : Hid _ := h1
      clear h1 h2 h3 h4 h5 HI
      go_wp2_with fail
      refine (CH _).mono ?_
      rintro e w5 ⟨rfl, B5⟩
      have BW5 := jaa HH.out HH.out.size B5
      clear HH B5 CH
      go_wp2_with fail
      go_ret
      exact ⟨rfl, BW5⟩
 ·rw [decide_eq_false hf, Bool.false_and]
  have hfb : (f == 0) = false := by rw [beq_eq_false_iff_ne]; exact hf
  obtain ⟨p, d, eo⟩ : ∃ p d, rsV o = .tuple #[vT p, .bool d] := by unfold rsV; split <;> exact ⟨_, _, rfl⟩
  rw [eo] at CU
  go_enter Tryz.func13, Tryz.ntmps13
  go_wp2_with fail
  refine (CS _).mono ?_
  rintro e w1 ⟨rfl, B1⟩
  have A1 : Below w1.heap.size w1 (w1.alloc (.cells #[.int .u64 (q.X : Int), .int .u64 (q.Y : Int), .bool q.I] 72)) := (Below.refl _ _).alloc (Nat.le_refl _) _
  have BW1 := jaa B1 B1.size A1
  have H1 : Hid _ := BW1
  clear B1 A1 BW1 CS
  go_wp2_with fail
  refine (CU _ (HN.out.2.below H1.out)).mono ?_
  rintro e w2 ⟨rfl, B2⟩
  have BW2 := jaa H1.out H1.out.size B2
  clear H1 B2 CU HN
  go_wp2_with fail
  go_ret
  exact ⟨rfl, BW2.alloc BW2.size _⟩
end Go.Proofs.YtoddangedbefgabGreatDoor
