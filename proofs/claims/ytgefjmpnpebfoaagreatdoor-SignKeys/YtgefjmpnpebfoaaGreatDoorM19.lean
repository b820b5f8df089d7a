/- Lemmas: What the reference's Bytes, From do. No condition. -/
import Derived.Test.YtgefjmpnpebfoaaGreatDoorM1
import Derived.Test.YtgefjmpnpebfoaaGreatDoorM10
import Derived.Test.YtgefjmpnpebfoaaGreatDoorM11
import Derived.Test.YtgefjmpnpebfoaaGreatDoorM12
import Derived.Test.YtgefjmpnpebfoaaGreatDoorM14
import Derived.Test.YtgefjmpnpebfoaaGreatDoorM17
import Derived.Test.YtgefjmpnpebfoaaGreatDoorM18
import Derived.Test.YtgefjmpnpebfoaaGreatDoorM2
import Derived.Test.YtgefjmpnpebfoaaGreatDoorM3
import Derived.Test.YtgefjmpnpebfoaaGreatDoorM6
import Derived.Test.YtgefjmpnpebfoaaGreatDoorM7
import Derived.Test.YtgefjmpnpebfoaaGreatDoorM8
import Derived.Test.YtgefjmpnpebfoaaGreatDoorM9
import Derived.Test.YtgefjmpnpebfoaaGreatDoorRows
namespace Go.Proofs.YtgefjmpnpebfoaaGreatDoor
open Go.RowKit Go.Shelf Go.Sort

theorem zero5_lit : zero5 = ⟨#[0, 0, 0, 0, 0]⟩ := by decide +kernel

set_option maxRecDepth 20000 in
set_option maxHeartbeats 4000000 in
theorem rbytes_any (p : Pt) (hp : UT p) (w : World) :
    Calls Tryz.prog 32 #[vT p] w fun e w' => e = .returned (bytV p) ∧ Below w.heap.size w w' := by
  have C1 := ringroup_any p hp
  have hf := fs_lt p
  unfold bytV
  cases hg : grN p
  · rw [hg] at C1
    rw [if_neg (by simp)]
    go_enter Tryz.func32, Tryz.ntmps32
    go_wp2_with fail
    refine callsOf (fun W => Below w.heap.size w W ∧ Tb w.heap.size p W) ⟨by go_grown, Tb.new' w p 25 _ rfl⟩ ?_
    rintro V ⟨BV, hA⟩
    refine (C1 _).mono ?_
    rintro e w1 ⟨rfl, B1⟩
    have BW := belowStep BV BV.size B1
    clear BV hA B1
    go_wp2_with fail
    refine bodyPost_ret (v := .tuple #[.string ⟨#[]⟩, .int .i64 100]) (by simp [results, Tryz.results32, go_sem, *]) rfl ⟨rfl, BW⟩
  have ho : onN p = true := by
    have h := hg
    unfold grN at h
    simp only [Bool.and_eq_true] at h
    exact h.1
  have hw := wl_on ho
  rw [hg] at C1
  rw [if_pos rfl]
  by_cases hi : p = iN
  · have eZ : txF (fsN p) p.X = ⟨#[0, 0, 0, 0, 0]⟩ := by
      have hz : txF 0 iN.X = zero5 := rfl
      rw [hi, fs_inf, hz, zero5_lit]
    rw [eZ]
    have HI : Hid (p.I = true) := by rw [hi]; exact rfl
    clear eZ hi
    go_enter Tryz.func32, Tryz.ntmps32
    go_wp2_with fail
    refine callsOf (fun W => Below w.heap.size w W ∧ Tb w.heap.size p W) ⟨by go_grown, Tb.new' w p 25 _ rfl⟩ ?_
    rintro V ⟨BV, hA⟩
    refine (C1 _).mono ?_
    rintro e w1 ⟨rfl, B1⟩
    have BW := belowStep BV BV.size B1
    have ⟨az, aa, ab, ac, af⟩ := hA.below B1
    rw [HI.out] at ac
    clear BV hA B1
    go_wp2_with fail
    refine bodyPost_ret (v := .tuple #[.string ⟨#[0, 0, 0, 0, 0]⟩, .int .i64 0]) (by simp [results, Tryz.results32, go_sem, *]) rfl ⟨rfl, BW⟩
  have HI : Hid (p.I = false) := wl_i hw hi
  have ef : fsN p = 2 + p.Y % 2 := by
    unfold fsN
    rw [if_neg hi]
    split <;> omega
  obtain ⟨f, hf'⟩ : ∃ f, fsN p = f := ⟨_, rfl⟩
  rw [hf'] at hf ef ⊢
  have y2 : (p.Y : Int) % 2 = ((p.Y % 2 : Nat) : Int) := by omega
  obtain ⟨m, hm⟩ : ∃ m, p.Y % 2 = m := ⟨_, rfl⟩
  rw [hm] at y2 ef
  have w2' : IntKind.u64.wrap (2 + (m : Int)) = (f : Int) := by rw [IntKind.wrap_u64]; omega
  have w3' : IntKind.u8.wrap (f : Int) = (f : Int) := by rw [IntKind.wrap_u8]; omega
  clear hf' hm hi ef hw ho
  go_enter Tryz.func32, Tryz.ntmps32
  go_wp2_with fail
  refine callsOf (fun W => Below w.heap.size w W ∧ Tb w.heap.size p W) ⟨by go_grown, Tb.new' w p 25 _ rfl⟩ ?_
  rintro V ⟨BV, hA⟩
  refine (C1 _).mono ?_
  rintro e w1 ⟨rfl, B1⟩
  have BW := belowStep BV BV.size B1
  have ⟨az, aa, ab, ac, af⟩ := hA.below B1
  rw [HI.out] at ac
  clear BV hA B1 V
  obtain ⟨b1, h1⟩ : ∃ b, p.X / 16777216 % 256 = b := ⟨_, rfl⟩
  obtain ⟨b2, h2⟩ : ∃ b, p.X / 65536 % 256 = b := ⟨_, rfl⟩
  obtain ⟨b3, h3⟩ : ∃ b, p.X / 256 % 256 = b := ⟨_, rfl⟩
  obtain ⟨b4, h4⟩ : ∃ b, p.X % 256 = b := ⟨_, rfl⟩
  have e1 : IntKind.u8.wrap ((p.X : Int) / 16777216) = b1 := by rw [IntKind.wrap_u8]; omega
  have e2 : IntKind.u8.wrap ((p.X : Int) / 65536) = b2 := by rw [IntKind.wrap_u8]; omega
  have e3 : IntKind.u8.wrap ((p.X : Int) / 256) = b3 := by rw [IntKind.wrap_u8]; omega
  have e4 : IntKind.u8.wrap (p.X : Int) = b4 := by rw [IntKind.wrap_u8]; omega
  have hcv := text_of f p.X b1 b2 b3 b4 hf h1 h2 h3 h4 w1
  clear h1 h2 h3 h4
  go_wp2_with fail
  refine bodyPost_ret (v := .tuple #[.string (txF f p.X), .int .i64 0]) (by simp [results, Tryz.results32, go_sem, *]) rfl ⟨rfl, BW.alloc BW.size _⟩

theorem list0 : (⟨#[0, 0, 0, 0, 0]⟩ : ByteArray).toList = [0, 0, 0, 0, 0] := by decide +kernel

set_option maxRecDepth 20000 in
set_option maxHeartbeats 16000000 in
theorem rfrom_any (s : ByteArray) (w : World) :
    Calls Tryz.prog 39 #[.string s] w fun e w' => e = .returned (frV s) ∧ Below w.heap.size w w' := by
  by_cases hz : s = zero5
  · rw [hz, fr_zero, zero5_lit]
    clear hz s
    go_enter Tryz.func39, Tryz.ntmps39
    go_wp2_with fail
    refine callsOf (fun W => Below w.heap.size w W ∧ Tb w.heap.size oP W) ⟨by go_grown, Tb.new' w oP 25 _ rfl⟩ ?_
    rintro V ⟨BV, hO⟩
    refine (none_any _).mono ?_
    rintro e w1 ⟨rfl, B1⟩
    have BW := belowStep BV BV.size B1
    have ⟨oz, oa, ob, oc, of⟩ := hO.below B1
    clear BV hO B1
    go_wp2_with fail
    refine bodyPost_ret (v := okT iN) (by simp [results, Tryz.results39, go_sem, *]) rfl ⟨rfl, ?_⟩
    exact below_put3 (y := iN) BW (Nat.le_refl _)
  have hz' := ne_list hz
  rw [zero5_lit, list0] at hz'
  by_cases h5 : s.size = 5
  · have g0 := bt_get s 0 (by omega)
    have g1 := bt_get s 1 (by omega)
    have g2 := bt_get s 2 (by omega)
    have g3 := bt_get s 3 (by omega)
    have g4 := bt_get s 4 (by omega)
    have q0 := btN_lt s 0
    have q1 := btN_lt s 1
    have q2 := btN_lt s 2
    have q3 := btN_lt s 3
    have q4 := btN_lt s 4
    rw [bt_N] at g0 g1 g2 g3 g4
    have R1' := fr_first s hz
    have R2' := fr_great s
    have R3' := fr_rest s h5
    obtain ⟨m1, m2, m3, n1, n2, F4⟩ := four_of _ _ _ _ q1 q2 q3 q4
    have hx4 := four_lt _ _ _ _ q1 q2 q3 q4
    have eX : nmX s = fourN (btN s 1) (btN s 2) (btN s 3) (btN s 4) := rfl
    rw [← eX] at F4 hx4
    have eY : rfY s = if btN s 0 = 3 then sbN 0 (roN (sqN (nmX s))) else roN (sqN (nmX s)) := rfl
    have eO : rfO s = if btN s 0 = 3 then roB (sqN (nmX s)) && !decide (roN (sqN (nmX s)) = 0) else roB (sqN (nmX s)) := rfl
    rw [eY, eO] at R3'
    clear eX eY eO
    obtain ⟨x, ex⟩ : ∃ x, nmX s = x := ⟨_, rfl⟩
    rw [ex] at F4 hx4 R2' R3'
    obtain ⟨y0, e0⟩ : ∃ y, btN s 0 = y := ⟨_, rfl⟩
    obtain ⟨y1, e1⟩ : ∃ y, btN s 1 = y := ⟨_, rfl⟩
    obtain ⟨y2, e2⟩ : ∃ y, btN s 2 = y := ⟨_, rfl⟩
    obtain ⟨y3, e3⟩ : ∃ y, btN s 3 = y := ⟨_, rfl⟩
    obtain ⟨y4, e4⟩ : ∃ y, btN s 4 = y := ⟨_, rfl⟩
    rw [e1, e2, e3, e4] at F4
    rw [e0] at g0 q0 R1' R2' R3'
    rw [e1] at g1 q1
    rw [e2] at g2 q2
    rw [e3] at g3 q3
    rw [e4] at g4 q4
    clear ex e0 e1 e2 e3 e4
    obtain ⟨s1, s2, s3, o1, o2, o3⟩ := F4
    have t1 : IntKind.u64.wrap (y1 : Int) = (y1 : Int) := by rw [IntKind.wrap_u64]; omega
    have t2 : IntKind.u64.wrap (y2 : Int) = (y2 : Int) := by rw [IntKind.wrap_u64]; omega
    have t3 : IntKind.u64.wrap (y3 : Int) = (y3 : Int) := by rw [IntKind.wrap_u64]; omega
    have t4 : IntKind.u64.wrap (y4 : Int) = (y4 : Int) := by rw [IntKind.wrap_u64]; omega
    have h5' : (s.size : Int) = 5 := by omega
    obtain ⟨fv, hfv⟩ : ∃ v, frV s = v := ⟨_, rfl⟩
    rw [hfv] at R1' R2' R3' ⊢
    clear hfv
    by_cases h23 : y0 = 2 ∨ y0 = 3
    · rcases h23 with h23 | h23
      · -- the first byte is 2
        have hd : y0 = 2 := h23
        subst hd
        by_cases hge : 2147482867 ≤ x
        · have hge' : (2147482867 : Int) ≤ x := by omega
          rw [R2' (by omega) hge]
          clear R1' R2' R3'
          go_enter Tryz.func39, Tryz.ntmps39
          go_wp2_with fail
          refine wpOf (fun V => Below w.heap.size w V ∧ Tb w.heap.size oP V) ⟨by go_grown, Tb.new' w oP 25 _ rfl⟩ ?_
          rintro V ⟨BV, hO⟩
          have HV : Hid (_ ∧ _) := ⟨BV, hO⟩
          clear BV hO
          refine wp_region_quiet_below (by kernel_rfl) (by kernel_rfl) ?_
          iterate 19 (quiet_step (fail))
          refine wpQuiet_nil ?_
          intro w8 hw8
          have B8 : Below V.heap.size V w8 := by
            obtain ⟨p, rfl⟩ := hw8
            exact below_regrown _ _ _
          obtain ⟨BV, hO⟩ := HV.out
          have BW := belowStep BV BV.size B8
          have O8 := hO.below B8
          clear hw8 B8 BV hO HV s1 s2 s3 o1 o2 o3 t1 t2 t3 t4 g1 g2 g3 g4
          obtain ⟨oz, oa, ob, oc, of⟩ := O8
          go_wp2_with fail
          refine bodyPost_ret (v := errT) (by simp [oP, results, Tryz.results39, go_sem, *]) rfl ⟨rfl, ?_⟩
          exact below_put3 (y := oP) BW (Nat.le_refl _)
        have hge' : decide ((2147482867 : Int) ≤ x) = false := decide_eq_false (by omega)
        have C1 := side_any x (by unfold U64; omega)
        have hq := sq_lt x
        have R4' := R3' (by omega)
        clear R1' R2' R3'
        rw [if_neg (show ¬ (2 : Nat) = 3 by omega), if_neg (show ¬ (2 : Nat) = 3 by omega)] at R4'
        obtain ⟨q, eq⟩ : ∃ q, sqN x = q := ⟨_, rfl⟩
        rw [eq] at C1 hq R4'
        have C2 := rroot_any q (pm_u _ hq)
        have hr := ro_lt q
        obtain ⟨r, er⟩ : ∃ r, roN q = r := ⟨_, rfl⟩
        obtain ⟨rb, erb⟩ : ∃ b, roB q = b := ⟨_, rfl⟩
        rw [er, erb] at C2 R4'
        rw [er] at hr
        clear eq er erb
        have hy := hr
        obtain ⟨y, ey⟩ : ∃ y, r = y := ⟨_, rfl⟩
        rw [ey] at C2 R4' hy
        clear ey hr r
        have C3 := ringroup_any ⟨x, y, false⟩ ⟨by show x < _; omega, pm_u _ hy⟩
        obtain ⟨gr, egr⟩ : ∃ b, grN ⟨x, y, false⟩ = b := ⟨_, rfl⟩
        rw [egr] at C3 R4'
        clear egr
        rw [R4']
        clear R4' hge hq hy hx4 q0 q1 q2 q3 q4 hz
        cases rb with
        | false =>
          rw [Bool.false_and, if_neg (by simp)]
          go_enter Tryz.func39, Tryz.ntmps39
          go_wp2_with fail
          refine wpOf (fun V => Below w.heap.size w V ∧ Tb w.heap.size oP V) ⟨by go_grown, Tb.new' w oP 25 _ rfl⟩ ?_
          rintro V ⟨BV, hO⟩
          have HV : Hid (_ ∧ _) := ⟨BV, hO⟩
          clear BV hO
          refine wp_region_quiet_below (by kernel_rfl) (by kernel_rfl) ?_
          iterate 19 (quiet_step (fail))
          refine wpQuiet_nil ?_
          intro w8 hw8
          have B8 : Below V.heap.size V w8 := by
            obtain ⟨p, rfl⟩ := hw8
            exact below_regrown _ _ _
          obtain ⟨BV, hO⟩ := HV.out
          have BW := belowStep BV BV.size B8
          have O8 := hO.below B8
          clear hw8 B8 BV hO HV s1 s2 s3 o1 o2 o3 t1 t2 t3 t4 g1 g2 g3 g4
          go_wp2_with fail
          refine (C1 _).mono ?_
          rintro e w9 ⟨rfl, B9⟩
          have BW9 := belowStep BW BW.size B9
          have O9 := O8.below B9
          clear BW O8 B9
          go_wp2_with fail
          refine (C2 _).mono ?_
          rintro e w10 ⟨rfl, B10⟩
          have BW10 := belowStep BW9 BW9.size B10
          have O10 := O9.below B10
          clear BW9 O9 B10
          have ⟨oz, oa, ob, oc, of⟩ := O10
          have HX : Hid (_ ∧ _ ∧ _) := ⟨BW10.alloc BW10.size (bxQ ⟨x, y, false⟩), O10.alloc (bxQ ⟨x, y, false⟩), Tb.new' w10 ⟨x, y, false⟩ 25 _ rfl⟩
          have HB : Hid _ := BW10
          clear BW10
          go_wp2_with fail
          refine bodyPost_ret (v := errT) (by simp [oP, results, Tryz.results39, go_sem, *]) rfl ⟨rfl, ?_⟩
          have hbb := below_put3 (y := oP) HB.out (Nat.le_refl _)
          exact hbb.alloc hbb.size _
        | true =>
          cases gr with
          | false =>
            rw [Bool.and_false, if_neg (by simp)]
            go_enter Tryz.func39, Tryz.ntmps39
            go_wp2_with fail
            refine wpOf (fun V => Below w.heap.size w V ∧ Tb w.heap.size oP V) ⟨by go_grown, Tb.new' w oP 25 _ rfl⟩ ?_
            rintro V ⟨BV, hO⟩
            have HV : Hid (_ ∧ _) := ⟨BV, hO⟩
            clear BV hO
            refine wp_region_quiet_below (by kernel_rfl) (by kernel_rfl) ?_
            iterate 19 (quiet_step (fail))
            refine wpQuiet_nil ?_
            intro w8 hw8
            have B8 : Below V.heap.size V w8 := by
              obtain ⟨p, rfl⟩ := hw8
              exact below_regrown _ _ _
            obtain ⟨BV, hO⟩ := HV.out
            have BW := belowStep BV BV.size B8
            have O8 := hO.below B8
            clear hw8 B8 BV hO HV s1 s2 s3 o1 o2 o3 t1 t2 t3 t4 g1 g2 g3 g4
            go_wp2_with fail
            refine (C1 _).mono ?_
            rintro e w9 ⟨rfl, B9⟩
            have BW9 := belowStep BW BW.size B9
            have O9 := O8.below B9
            clear BW O8 B9
            go_wp2_with fail
            refine (C2 _).mono ?_
            rintro e w10 ⟨rfl, B10⟩
            have BW10 := belowStep BW9 BW9.size B10
            have O10 := O9.below B10
            clear BW9 O9 B10
            have ⟨oz, oa, ob, oc, of⟩ := O10
            have HX : Hid (_ ∧ _ ∧ _) := ⟨BW10.alloc BW10.size (bxQ ⟨x, y, false⟩), O10.alloc (bxQ ⟨x, y, false⟩), Tb.new' w10 ⟨x, y, false⟩ 25 _ rfl⟩
            have HB : Hid _ := BW10
            clear BW10
            go_wp2_with fail
            refine callsOf (fun W => Below w.heap.size w W ∧ Tb w.heap.size oP W ∧ Tb w10.heap.size ⟨x, y, false⟩ W) HX.out ?_
            rintro v1 ⟨BV, hO, hP⟩
            obtain ⟨k1, hk⟩ : ∃ n, w10.heap.size = n := ⟨_, rfl⟩
            rw [hk] at hP ⊢
            clear HX HB hk oz oa ob oc of O10 w10
            refine (C3 _).mono ?_
            rintro e w12 ⟨rfl, B12⟩
            have O12 := hO.below B12
            have P12 := hP.below B12
            have BW12 := belowStep BV BV.size B12
            clear BV hO hP B12
            obtain ⟨oz, oa, ob, oc, of⟩ := O12
            obtain ⟨pz, pa, pb, pc, pf⟩ := P12
            go_wp2_with fail
            refine bodyPost_ret (v := errT) (by simp [oP, results, Tryz.results39, go_sem, *]) rfl ⟨rfl, ?_⟩
            exact below_put3 (y := oP) BW12 (Nat.le_refl _)
          | true =>
            rw [Bool.and_self, if_pos rfl]
            go_enter Tryz.func39, Tryz.ntmps39
            go_wp2_with fail
            refine wpOf (fun V => Below w.heap.size w V ∧ Tb w.heap.size oP V) ⟨by go_grown, Tb.new' w oP 25 _ rfl⟩ ?_
            rintro V ⟨BV, hO⟩
            have HV : Hid (_ ∧ _) := ⟨BV, hO⟩
            clear BV hO
            refine wp_region_quiet_below (by kernel_rfl) (by kernel_rfl) ?_
            iterate 19 (quiet_step (fail))
            refine wpQuiet_nil ?_
            intro w8 hw8
            have B8 : Below V.heap.size V w8 := by
              obtain ⟨p, rfl⟩ := hw8
              exact below_regrown _ _ _
            obtain ⟨BV, hO⟩ := HV.out
            have BW := belowStep BV BV.size B8
            have O8 := hO.below B8
            clear hw8 B8 BV hO HV s1 s2 s3 o1 o2 o3 t1 t2 t3 t4 g1 g2 g3 g4
            go_wp2_with fail
            refine (C1 _).mono ?_
            rintro e w9 ⟨rfl, B9⟩
            have BW9 := belowStep BW BW.size B9
            have O9 := O8.below B9
            clear BW O8 B9
            go_wp2_with fail
            refine (C2 _).mono ?_
            rintro e w10 ⟨rfl, B10⟩
            have BW10 := belowStep BW9 BW9.size B10
            have O10 := O9.below B10
            clear BW9 O9 B10
            have ⟨oz, oa, ob, oc, of⟩ := O10
            have HX : Hid (_ ∧ _ ∧ _) := ⟨BW10.alloc BW10.size (bxQ ⟨x, y, false⟩), O10.alloc (bxQ ⟨x, y, false⟩), Tb.new' w10 ⟨x, y, false⟩ 25 _ rfl⟩
            have HB : Hid _ := BW10
            clear BW10
            go_wp2_with fail
            refine callsOf (fun W => Below w.heap.size w W ∧ Tb w.heap.size oP W ∧ Tb w10.heap.size ⟨x, y, false⟩ W) HX.out ?_
            rintro v1 ⟨BV, hO, hP⟩
            obtain ⟨k1, hk⟩ : ∃ n, w10.heap.size = n := ⟨_, rfl⟩
            rw [hk] at hP ⊢
            clear HX HB hk oz oa ob oc of O10 w10
            refine (C3 _).mono ?_
            rintro e w12 ⟨rfl, B12⟩
            have O12 := hO.below B12
            have P12 := hP.below B12
            have BW12 := belowStep BV BV.size B12
            clear BV hO hP B12
            obtain ⟨oz, oa, ob, oc, of⟩ := O12
            obtain ⟨pz, pa, pb, pc, pf⟩ := P12
            go_wp2_with fail
            refine bodyPost_ret (v := okT ⟨x, y, false⟩) (by simp [results, Tryz.results39, go_sem, *]) rfl ⟨rfl, ?_⟩
            exact below_put3 (y := ⟨x, y, false⟩) BW12 (Nat.le_refl _)
      · -- the first byte is 3
        have hd : y0 = 3 := h23
        subst hd
        by_cases hge : 2147482867 ≤ x
        · have hge' : (2147482867 : Int) ≤ x := by omega
          rw [R2' (by omega) hge]
          clear R1' R2' R3'
          go_enter Tryz.func39, Tryz.ntmps39
          go_wp2_with fail
          refine wpOf (fun V => Below w.heap.size w V ∧ Tb w.heap.size oP V) ⟨by go_grown, Tb.new' w oP 25 _ rfl⟩ ?_
          rintro V ⟨BV, hO⟩
          have HV : Hid (_ ∧ _) := ⟨BV, hO⟩
          clear BV hO
          refine wp_region_quiet_below (by kernel_rfl) (by kernel_rfl) ?_
          iterate 19 (quiet_step (fail))
          refine wpQuiet_nil ?_
          intro w8 hw8
          have B8 : Below V.heap.size V w8 := by
            obtain ⟨p, rfl⟩ := hw8
            exact below_regrown _ _ _
          obtain ⟨BV, hO⟩ := HV.out
          have BW := belowStep BV BV.size B8
          have O8 := hO.below B8
          clear hw8 B8 BV hO HV s1 s2 s3 o1 o2 o3 t1 t2 t3 t4 g1 g2 g3 g4
          obtain ⟨oz, oa, ob, oc, of⟩ := O8
          go_wp2_with fail
          refine bodyPost_ret (v := errT) (by simp [oP, results, Tryz.results39, go_sem, *]) rfl ⟨rfl, ?_⟩
          exact below_put3 (y := oP) BW (Nat.le_refl _)
        have hge' : decide ((2147482867 : Int) ≤ x) = false := decide_eq_false (by omega)
        have C1 := side_any x (by unfold U64; omega)
        have hq := sq_lt x
        have R4' := R3' (by omega)
        clear R1' R2' R3'
        rw [if_pos rfl, if_pos rfl] at R4'
        obtain ⟨q, eq⟩ : ∃ q, sqN x = q := ⟨_, rfl⟩
        rw [eq] at C1 hq R4'
        have C2 := rroot_any q (pm_u _ hq)
        have hr := ro_lt q
        obtain ⟨r, er⟩ : ∃ r, roN q = r := ⟨_, rfl⟩
        obtain ⟨rb, erb⟩ : ∃ b, roB q = b := ⟨_, rfl⟩
        rw [er, erb] at C2 R4'
        rw [er] at hr
        clear eq er erb
        have C4 := rsub_any 0 r (by unfold U64; omega) (pm_u _ hr)
        have hy := sb_lt 0 r
        obtain ⟨y, ey⟩ : ∃ y, sbN 0 r = y := ⟨_, rfl⟩
        rw [ey] at C4 R4' hy
        clear ey
        have ez : ((r : Int) != 0) = !decide (r = 0) := by
          by_cases e : r = 0
          · subst e; rfl
          · rw [decide_eq_false e, Bool.not_false, bne_iff_ne]; omega
        obtain ⟨rz, erz⟩ : ∃ b, (!decide (r = 0)) = b := ⟨_, rfl⟩
        rw [erz] at ez R4'
        have HE : Hid (((r : Int) != 0) = rz) := ez
        clear erz ez hr
        have C3 := ringroup_any ⟨x, y, false⟩ ⟨by show x < _; omega, pm_u _ hy⟩
        obtain ⟨gr, egr⟩ : ∃ b, grN ⟨x, y, false⟩ = b := ⟨_, rfl⟩
        rw [egr] at C3 R4'
        clear egr
        rw [R4']
        clear R4' hge hq hy hx4 q0 q1 q2 q3 q4 hz
        cases rb with
        | false =>
          rw [Bool.false_and, Bool.false_and, if_neg (by simp)]
          go_enter Tryz.func39, Tryz.ntmps39
          go_wp2_with fail
          refine wpOf (fun V => Below w.heap.size w V ∧ Tb w.heap.size oP V) ⟨by go_grown, Tb.new' w oP 25 _ rfl⟩ ?_
          rintro V ⟨BV, hO⟩
          have HV : Hid (_ ∧ _) := ⟨BV, hO⟩
          clear BV hO
          refine wp_region_quiet_below (by kernel_rfl) (by kernel_rfl) ?_
          iterate 19 (quiet_step (fail))
          refine wpQuiet_nil ?_
          intro w8 hw8
          have B8 : Below V.heap.size V w8 := by
            obtain ⟨p, rfl⟩ := hw8
            exact below_regrown _ _ _
          obtain ⟨BV, hO⟩ := HV.out
          have BW := belowStep BV BV.size B8
          have O8 := hO.below B8
          clear hw8 B8 BV hO HV s1 s2 s3 o1 o2 o3 t1 t2 t3 t4 g1 g2 g3 g4
          go_wp2_with fail
          refine (C1 _).mono ?_
          rintro e w9 ⟨rfl, B9⟩
          have BW9 := belowStep BW BW.size B9
          have O9 := O8.below B9
          clear BW O8 B9
          go_wp2_with fail
          refine (C2 _).mono ?_
          rintro e w10 ⟨rfl, B10⟩
          have BW10 := belowStep BW9 BW9.size B10
          have O10 := O9.below B10
          clear BW9 O9 B10
          have ⟨oz, oa, ob, oc, of⟩ := O10
          have ez := HE.out
          go_wp2_with fail
          clear oz oa ob oc of
          refine (C4 _).mono ?_
          rintro e w11 ⟨rfl, B11⟩
          have BW11 := belowStep BW10 BW10.size B11
          have O11 := O10.below B11
          clear BW10 O10 B11
          have BW10 := BW11
          have O10 := O11
          clear BW11 O11
          have ⟨oz, oa, ob, oc, of⟩ := O10
          have HX : Hid (_ ∧ _ ∧ _) := ⟨BW10.alloc BW10.size (bxQ ⟨x, y, false⟩), O10.alloc (bxQ ⟨x, y, false⟩), Tb.new' w11 ⟨x, y, false⟩ 25 _ rfl⟩
          have HB : Hid _ := BW10
          clear BW10
          go_wp2_with fail
          refine bodyPost_ret (v := errT) (by simp [oP, results, Tryz.results39, go_sem, *]) rfl ⟨rfl, ?_⟩
          have hbb := below_put3 (y := oP) HB.out (Nat.le_refl _)
          exact hbb.alloc hbb.size _
        | true =>
          cases rz with
          | false =>
            rw [Bool.and_false, Bool.false_and, if_neg (by simp)]
            go_enter Tryz.func39, Tryz.ntmps39
            go_wp2_with fail
            refine wpOf (fun V => Below w.heap.size w V ∧ Tb w.heap.size oP V) ⟨by go_grown, Tb.new' w oP 25 _ rfl⟩ ?_
            rintro V ⟨BV, hO⟩
            have HV : Hid (_ ∧ _) := ⟨BV, hO⟩
            clear BV hO
            refine wp_region_quiet_below (by kernel_rfl) (by kernel_rfl) ?_
            iterate 19 (quiet_step (fail))
            refine wpQuiet_nil ?_
            intro w8 hw8
            have B8 : Below V.heap.size V w8 := by
              obtain ⟨p, rfl⟩ := hw8
              exact below_regrown _ _ _
            obtain ⟨BV, hO⟩ := HV.out
            have BW := belowStep BV BV.size B8
            have O8 := hO.below B8
            clear hw8 B8 BV hO HV s1 s2 s3 o1 o2 o3 t1 t2 t3 t4 g1 g2 g3 g4
            go_wp2_with fail
            refine (C1 _).mono ?_
            rintro e w9 ⟨rfl, B9⟩
            have BW9 := belowStep BW BW.size B9
            have O9 := O8.below B9
            clear BW O8 B9
            go_wp2_with fail
            refine (C2 _).mono ?_
            rintro e w10 ⟨rfl, B10⟩
            have BW10 := belowStep BW9 BW9.size B10
            have O10 := O9.below B10
            clear BW9 O9 B10
            have ⟨oz, oa, ob, oc, of⟩ := O10
            have ez := HE.out
            go_wp2_with fail
            clear oz oa ob oc of
            refine (C4 _).mono ?_
            rintro e w11 ⟨rfl, B11⟩
            have BW11 := belowStep BW10 BW10.size B11
            have O11 := O10.below B11
            clear BW10 O10 B11
            have BW10 := BW11
            have O10 := O11
            clear BW11 O11
            have ⟨oz, oa, ob, oc, of⟩ := O10
            have HX : Hid (_ ∧ _ ∧ _) := ⟨BW10.alloc BW10.size (bxQ ⟨x, y, false⟩), O10.alloc (bxQ ⟨x, y, false⟩), Tb.new' w11 ⟨x, y, false⟩ 25 _ rfl⟩
            have HB : Hid _ := BW10
            clear BW10
            go_wp2_with fail
            refine bodyPost_ret (v := errT) (by simp [oP, results, Tryz.results39, go_sem, *]) rfl ⟨rfl, ?_⟩
            have hbb := below_put3 (y := oP) HB.out (Nat.le_refl _)
            exact hbb.alloc hbb.size _
          | true =>
            cases gr with
            | false =>
              rw [Bool.and_false, if_neg (by simp)]
              go_enter Tryz.func39, Tryz.ntmps39
              go_wp2_with fail
              refine wpOf (fun V => Below w.heap.size w V ∧ Tb w.heap.size oP V) ⟨by go_grown, Tb.new' w oP 25 _ rfl⟩ ?_
              rintro V ⟨BV, hO⟩
              have HV : Hid (_ ∧ _) := ⟨BV, hO⟩
              clear BV hO
              refine wp_region_quiet_below (by kernel_rfl) (by kernel_rfl) ?_
              iterate 19 (quiet_step (fail))
              refine wpQuiet_nil ?_
              intro w8 hw8
              have B8 : Below V.heap.size V w8 := by
                obtain ⟨p, rfl⟩ := hw8
                exact below_regrown _ _ _
              obtain ⟨BV, hO⟩ := HV.out
              have BW := belowStep BV BV.size B8
              have O8 := hO.below B8
              clear hw8 B8 BV hO HV s1 s2 s3 o1 o2 o3 t1 t2 t3 t4 g1 g2 g3 g4
              go_wp2_with fail
              refine (C1 _).mono ?_
              rintro e w9 ⟨rfl, B9⟩
              have BW9 := belowStep BW BW.size B9
              have O9 := O8.below B9
              clear BW O8 B9
              go_wp2_with fail
              refine (C2 _).mono ?_
              rintro e w10 ⟨rfl, B10⟩
              have BW10 := belowStep BW9 BW9.size B10
              have O10 := O9.below B10
              clear BW9 O9 B10
              have ⟨oz, oa, ob, oc, of⟩ := O10
              have ez := HE.out
              go_wp2_with fail
              clear oz oa ob oc of
              refine (C4 _).mono ?_
              rintro e w11 ⟨rfl, B11⟩
              have BW11 := belowStep BW10 BW10.size B11
              have O11 := O10.below B11
              clear BW10 O10 B11
              have BW10 := BW11
              have O10 := O11
              clear BW11 O11
              have ⟨oz, oa, ob, oc, of⟩ := O10
              have HX : Hid (_ ∧ _ ∧ _) := ⟨BW10.alloc BW10.size (bxQ ⟨x, y, false⟩), O10.alloc (bxQ ⟨x, y, false⟩), Tb.new' w11 ⟨x, y, false⟩ 25 _ rfl⟩
              have HB : Hid _ := BW10
              clear BW10
              go_wp2_with fail
              refine callsOf (fun W => Below w.heap.size w W ∧ Tb w.heap.size oP W ∧ Tb w11.heap.size ⟨x, y, false⟩ W) HX.out ?_
              rintro v1 ⟨BV, hO, hP⟩
              obtain ⟨k1, hk⟩ : ∃ n, w11.heap.size = n := ⟨_, rfl⟩
              rw [hk] at hP ⊢
              clear HX HB hk oz oa ob oc of O10 w11
              refine (C3 _).mono ?_
              rintro e w12 ⟨rfl, B12⟩
              have O12 := hO.below B12
              have P12 := hP.below B12
              have BW12 := belowStep BV BV.size B12
              clear BV hO hP B12
              obtain ⟨oz, oa, ob, oc, of⟩ := O12
              obtain ⟨pz, pa, pb, pc, pf⟩ := P12
              go_wp2_with fail
              refine bodyPost_ret (v := errT) (by simp [oP, results, Tryz.results39, go_sem, *]) rfl ⟨rfl, ?_⟩
              exact below_put3 (y := oP) BW12 (Nat.le_refl _)
            | true =>
              rw [Bool.and_self, Bool.and_self, if_pos rfl]
              go_enter Tryz.func39, Tryz.ntmps39
              go_wp2_with fail
              refine wpOf (fun V => Below w.heap.size w V ∧ Tb w.heap.size oP V) ⟨by go_grown, Tb.new' w oP 25 _ rfl⟩ ?_
              rintro V ⟨BV, hO⟩
              have HV : Hid (_ ∧ _) := ⟨BV, hO⟩
              clear BV hO
              refine wp_region_quiet_below (by kernel_rfl) (by kernel_rfl) ?_
              iterate 19 (quiet_step (fail))
              refine wpQuiet_nil ?_
              intro w8 hw8
              have B8 : Below V.heap.size V w8 := by
                obtain ⟨p, rfl⟩ := hw8
                exact below_regrown _ _ _
              obtain ⟨BV, hO⟩ := HV.out
              have BW := belowStep BV BV.size B8
              have O8 := hO.below B8
              clear hw8 B8 BV hO HV s1 s2 s3 o1 o2 o3 t1 t2 t3 t4 g1 g2 g3 g4
              go_wp2_with fail
              refine (C1 _).mono ?_
              rintro e w9 ⟨rfl, B9⟩
              have BW9 := belowStep BW BW.size B9
              have O9 := O8.below B9
              clear BW O8 B9
              go_wp2_with fail
              refine (C2 _).mono ?_
              rintro e w10 ⟨rfl, B10⟩
              have BW10 := belowStep BW9 BW9.size B10
              have O10 := O9.below B10
              clear BW9 O9 B10
              have ⟨oz, oa, ob, oc, of⟩ := O10
              have ez := HE.out
              go_wp2_with fail
              clear oz oa ob oc of
              refine (C4 _).mono ?_
              rintro e w11 ⟨rfl, B11⟩
              have BW11 := belowStep BW10 BW10.size B11
              have O11 := O10.below B11
              clear BW10 O10 B11
              have BW10 := BW11
              have O10 := O11
              clear BW11 O11
              have ⟨oz, oa, ob, oc, of⟩ := O10
              have HX : Hid (_ ∧ _ ∧ _) := ⟨BW10.alloc BW10.size (bxQ ⟨x, y, false⟩), O10.alloc (bxQ ⟨x, y, false⟩), Tb.new' w11 ⟨x, y, false⟩ 25 _ rfl⟩
              have HB : Hid _ := BW10
              clear BW10
              go_wp2_with fail
              refine callsOf (fun W => Below w.heap.size w W ∧ Tb w.heap.size oP W ∧ Tb w11.heap.size ⟨x, y, false⟩ W) HX.out ?_
              rintro v1 ⟨BV, hO, hP⟩
              obtain ⟨k1, hk⟩ : ∃ n, w11.heap.size = n := ⟨_, rfl⟩
              rw [hk] at hP ⊢
              clear HX HB hk oz oa ob oc of O10 w11
              refine (C3 _).mono ?_
              rintro e w12 ⟨rfl, B12⟩
              have O12 := hO.below B12
              have P12 := hP.below B12
              have BW12 := belowStep BV BV.size B12
              clear BV hO hP B12
              obtain ⟨oz, oa, ob, oc, of⟩ := O12
              obtain ⟨pz, pa, pb, pc, pf⟩ := P12
              go_wp2_with fail
              refine bodyPost_ret (v := okT ⟨x, y, false⟩) (by simp [results, Tryz.results39, go_sem, *]) rfl ⟨rfl, ?_⟩
              exact below_put3 (y := ⟨x, y, false⟩) BW12 (Nat.le_refl _)
    · have h2 : ¬ y0 = 2 := by omega
      have h3 : ¬ y0 = 3 := by omega
      rw [R1' h2 h3]
      have h2' : ((y0 : Int) != 2) = true := by rw [bne_iff_ne]; omega
      have h3' : ((y0 : Int) != 3) = true := by rw [bne_iff_ne]; omega
      clear R1' R2' R3' s1 s2 s3 o1 o2 o3 t1 t2 t3 t4 g1 g2 g3 g4
      go_enter Tryz.func39, Tryz.ntmps39
      go_wp2_with fail
      refine bodyPost_ret (v := errT) (by simp [oP, results, Tryz.results39, go_sem, *]) rfl ⟨rfl, by go_grown⟩
  · rw [fr_short s h5]
    have h5' : ((s.size : Int) == 5) = false := by rw [beq_eq_false_iff_ne]; omega
    have h5'' : ¬ (s.size : Int) = 5 := by omega
    go_enter Tryz.func39, Tryz.ntmps39
    go_wp2_with fail
    refine bodyPost_ret (v := errT) (by simp [oP, results, Tryz.results39, go_sem, *]) rfl ⟨rfl, by go_grown⟩
end Go.Proofs.YtgefjmpnpebfoaaGreatDoor
