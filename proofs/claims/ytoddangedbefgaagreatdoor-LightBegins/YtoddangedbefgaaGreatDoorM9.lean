/- Lemmas: What the program's From does. No condition. -/
import Derived.Test.YtoddangedbefgaaGreatDoorM1
import Derived.Test.YtoddangedbefgaaGreatDoorM2
import Derived.Test.YtoddangedbefgaaGreatDoorM3
import Derived.Test.YtoddangedbefgaaGreatDoorM4
import Derived.Test.YtoddangedbefgaaGreatDoorM5
import Derived.Test.YtoddangedbefgaaGreatDoorM6
import Derived.Test.YtoddangedbefgaaGreatDoorM7
import Derived.Test.YtoddangedbefgaaGreatDoorM8
import Derived.Test.YtoddangedbefgaaGreatDoorRows
namespace Go.Proofs.YtoddangedbefgaaGreatDoor
open Go.RowKit Go.Shelf Go.Sort

theorem ut_nm (s : ByteArray) : UT (nmN s) := by
  have hx : nmX s < 4294967296 := four_lt _ _ _ _ (btN_lt s 1) (btN_lt s 2) (btN_lt s 3) (btN_lt s 4)
  have hr := pm_u _ (ro_lt (sqN (nmX s)))
  unfold nmN
  split
  · exact ⟨by decide, by decide⟩
  · split
    · exact ⟨by show nmX s < _; omega, pm_u _ (sb_lt _ _)⟩
    · exact ⟨by show nmX s < _; omega, hr⟩
theorem q_toList_inj {s t : ByteArray} (h : s.toList = t.toList) : s = t := by
  rw [ByteArray.toList_eq, ByteArray.toList_eq] at h
  have h2 : s.data = t.data := Array.toList_inj.1 h
  cases s
  cases t
  cases h2
  rfl

theorem ne_list {s t : ByteArray} (h : ¬ s = t) : (s.toList == t.toList) = false := by rw [beq_eq_false_iff_ne]; exact fun e => h (q_toList_inj e)
/-- What is read. -/
def frB (s : ByteArray) : Bool := decide (s.size = 5) && grN (nmN s) && decide (txF (fsN (nmN s)) (nmN s).X = s)
def frV (s : ByteArray) : Value := if frB s = true then okT (nmN s) else errT

abbrev bxQ (r : Pt) : Obj := .cells #[.int .u64 (r.X : Int), .int .u64 (r.Y : Int), .bool r.I] 100
set_option maxRecDepth 20000 in
set_option maxHeartbeats 4000000 in
theorem from_any (s : ByteArray) (w : World) (hL : Li w) :
    Calls Tryz.prog 151 #[.string s] w fun e w' => e = .returned (frV s) ∧ Below w.heap.size w w' := by
  have eV : frV s = if frB s = true then okT (nmN s) else errT := rfl
  rw [eV]
  by_cases h5 : s.size = 5
  · have C1 := named_any s h5
    have C2 := bytes_any (nmN s) (ut_nm s)
    have eB : frB s = (grN (nmN s) && decide (txF (fsN (nmN s)) (nmN s).X = s)) := by unfold frB; rw [decide_eq_true h5, Bool.true_and]
    rw [eB]
    unfold bytV at C2
    obtain ⟨p, hp⟩ : ∃ p, nmN s = p := ⟨_, rfl⟩
    rw [hp] at C1 C2 ⊢
    have h5' : (s.size : Int) = 5 := by omega
    cases hg : grN p
    · rw [hg] at C2
      rw [if_neg (by simp)] at C2 ⊢
      go_enter Tryz.func151, Tryz.ntmps151
      go_wp2_with fail
      refine callsOf (fun W => Below w.heap.size w W ∧ Tb w.heap.size oP W ∧ Li W) ⟨by go_grown, Tb.new' w oP 100 _ rfl, hL.alloc _⟩ ?_
      rintro v0 ⟨BV, hO, LV⟩
      refine (C1 _ LV).mono ?_
      rintro e w1 ⟨rfl, B1⟩
      have O1 := hO.below B1
      have LW1 := LV.below B1
      have BW1 := belowStep BV BV.size B1
      have HX : Hid (_ ∧ _ ∧ _ ∧ _) := ⟨BW1.alloc BW1.size (bxQ p), O1.alloc (bxQ p), Tb.new' w1 p 100 _ rfl, LW1.alloc (bxQ p)⟩
      clear BV hO LV B1 O1 LW1 BW1
      go_wp2_with fail
      refine callsOf (fun W => Below w.heap.size w W ∧ Tb w.heap.size oP W ∧ Tb w1.heap.size p W ∧ Li W) HX.out ?_
      rintro v2 ⟨BV, hO, hP, LV⟩
      obtain ⟨n1, hn1⟩ : ∃ n, w1.heap.size = n := ⟨_, rfl⟩
      rw [hn1] at hP ⊢
      clear HX hn1 w1
      refine (C2 _ LV).mono ?_
      rintro e w3 ⟨rfl, B3⟩
      have O3 := hO.below B3
      have P3 := hP.below B3
      have BW3 := belowStep BV BV.size B3
      clear BV hO hP LV B3
      have ⟨oz, oa, ob, oc, of⟩ := O3
      have ⟨pz, pa, pb, pc, pf⟩ := P3
      clear O3 P3
      go_wp2_with fail
      refine bodyPost_ret (v := errT) (by simp [oP, results, Tryz.results151, go_sem, *]) rfl ⟨rfl, ?_⟩
      exact below_put3 (y := oP) BW3 (Nat.le_refl _)
    · rw [hg] at C2
      rw [if_pos rfl] at C2
      obtain ⟨t, ht⟩ : ∃ t, txF (fsN p) p.X = t := ⟨_, rfl⟩
      rw [ht] at C2 ⊢
      clear ht eB eV
      by_cases hts : t = s
      · subst hts
        rw [if_pos (by simp)]
        go_enter Tryz.func151, Tryz.ntmps151
        go_wp2_with fail
        refine callsOf (fun W => Below w.heap.size w W ∧ Tb w.heap.size oP W ∧ Li W) ⟨by go_grown, Tb.new' w oP 100 _ rfl, hL.alloc _⟩ ?_
        rintro v0 ⟨BV, hO, LV⟩
        refine (C1 _ LV).mono ?_
        rintro e w1 ⟨rfl, B1⟩
        have O1 := hO.below B1
        have LW1 := LV.below B1
        have BW1 := belowStep BV BV.size B1
        have HX : Hid (_ ∧ _ ∧ _ ∧ _) := ⟨BW1.alloc BW1.size (bxQ p), O1.alloc (bxQ p), Tb.new' w1 p 100 _ rfl, LW1.alloc (bxQ p)⟩
        clear BV hO LV B1 O1 LW1 BW1
        go_wp2_with fail
        refine callsOf (fun W => Below w.heap.size w W ∧ Tb w.heap.size oP W ∧ Tb w1.heap.size p W ∧ Li W) HX.out ?_
        rintro v2 ⟨BV, hO, hP, LV⟩
        obtain ⟨n1, hn1⟩ : ∃ n, w1.heap.size = n := ⟨_, rfl⟩
        rw [hn1] at hP ⊢
        clear HX hn1 w1
        refine (C2 _ LV).mono ?_
        rintro e w3 ⟨rfl, B3⟩
        have O3 := hO.below B3
        have P3 := hP.below B3
        have BW3 := belowStep BV BV.size B3
        clear BV hO hP LV B3
        have ⟨oz, oa, ob, oc, of⟩ := O3
        have ⟨pz, pa, pb, pc, pf⟩ := P3
        clear O3 P3
        go_wp2_with fail
        refine bodyPost_ret (v := okT p) (by simp [results, Tryz.results151, go_sem, *]) rfl ⟨rfl, ?_⟩
        exact below_put3 (y := p) BW3 (Nat.le_refl _)
      · rw [if_neg (by simp [hts])]
        have htl := ne_list hts
        go_enter Tryz.func151, Tryz.ntmps151
        go_wp2_with fail
        refine callsOf (fun W => Below w.heap.size w W ∧ Tb w.heap.size oP W ∧ Li W) ⟨by go_grown, Tb.new' w oP 100 _ rfl, hL.alloc _⟩ ?_
        rintro v0 ⟨BV, hO, LV⟩
        refine (C1 _ LV).mono ?_
        rintro e w1 ⟨rfl, B1⟩
        have O1 := hO.below B1
        have LW1 := LV.below B1
        have BW1 := belowStep BV BV.size B1
        have HX : Hid (_ ∧ _ ∧ _ ∧ _) := ⟨BW1.alloc BW1.size (bxQ p), O1.alloc (bxQ p), Tb.new' w1 p 100 _ rfl, LW1.alloc (bxQ p)⟩
        clear BV hO LV B1 O1 LW1 BW1
        go_wp2_with fail
        refine callsOf (fun W => Below w.heap.size w W ∧ Tb w.heap.size oP W ∧ Tb w1.heap.size p W ∧ Li W) HX.out ?_
        rintro v2 ⟨BV, hO, hP, LV⟩
        obtain ⟨n1, hn1⟩ : ∃ n, w1.heap.size = n := ⟨_, rfl⟩
        rw [hn1] at hP ⊢
        clear HX hn1 w1
        refine (C2 _ LV).mono ?_
        rintro e w3 ⟨rfl, B3⟩
        have O3 := hO.below B3
        have P3 := hP.below B3
        have BW3 := belowStep BV BV.size B3
        clear BV hO hP LV B3
        have ⟨oz, oa, ob, oc, of⟩ := O3
        have ⟨pz, pa, pb, pc, pf⟩ := P3
        clear O3 P3
        go_wp2_with fail
        refine bodyPost_ret (v := errT) (by simp [oP, results, Tryz.results151, go_sem, *]) rfl ⟨rfl, ?_⟩
        exact below_put3 (y := oP) BW3 (Nat.le_refl _)
  · have eB : frB s = false := by unfold frB; rw [decide_eq_false h5, Bool.false_and, Bool.false_and]
    rw [eB, if_neg (by simp)]
    have h5' : ¬ (s.size : Int) = 5 := by omega
    have h5'' : ((s.size : Int) == 5) = false := by rw [beq_eq_false_iff_ne]; exact h5'
    go_enter Tryz.func151, Tryz.ntmps151
    go_wp2_with fail
    refine bodyPost_ret (v := errT) (by simp [oP, results, Tryz.results151, go_sem, *]) rfl ⟨rfl, by go_grown⟩
end Go.Proofs.YtoddangedbefgaaGreatDoor
