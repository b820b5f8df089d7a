/- What the reference's Times, InGroup, Add, Neg do. No condition. -/
import Derived.Test.YteknhghmliihhaaDoorC5
namespace Go.Proofs.YteknhghmliihhaaDoor
open Go.RowKit Go.Shelf Go.Sort

theorem fieldI (p : Pt) (W : World) : (Instr.field 24 (vT p) 2).run Tryd.prog W = .ok (.bool p.I) W := by
  simp only [vT]
  simp [Instr.field, asAgg, go_sem]

set_option maxRecDepth 20000 in
set_option maxHeartbeats 4000000 in
theorem ringroup_any (p : Pt) (hp : UT p) (w : World) :
    Calls Tryd.prog 24 #[vT p] w fun e w' => e = .returned (.bool (grN p)) ∧ Below w.heap.size w w' := by
  have uo : U64 536870717 := by unfold U64; omega
  have eG : grN p = (onN p && decide (tmN p 536870717 = iN)) := rfl
  rw [eG]
  have CO := ron_any p hp
  cases ho : onN p
  · rw [ho] at CO
    go_enter Tryd.func24, Tryd.ntmps24
    go_wp2_with fail
    refine callsOf (fun V => Below w.heap.size w V ∧ Tb w.heap.size p V) ⟨by go_grown, Tb.new' w p 24 _ rfl⟩ ?_
    rintro V ⟨BV, hA⟩
    refine (CO _).mono ?_
    rintro e w2 ⟨rfl, B2⟩
    have BW := belowStep BV BV.size B2
    clear hA B2 BV
    go_wp2_with fail
    go_ret
    exact ⟨by simp, BW⟩
  · rw [ho] at CO
    have wm := wl_tm p (wl_on ho) 536870717
    have CM := many_any 536870717 uo p (wl_on ho)
    have eI : decide (tmN p 536870717 = iN) = (tmN p 536870717).I := by
      by_cases e : tmN p 536870717 = iN
      · rw [decide_eq_true e, e]; rfl
      · rw [decide_eq_false e, wl_i wm e]
    rw [eI]
    obtain ⟨m, hm⟩ : ∃ m, tmN p 536870717 = m := ⟨_, rfl⟩
    rw [hm] at CM ⊢
    clear hm eI wm
    go_enter Tryd.func24, Tryd.ntmps24
    go_wp2_with fail
    refine callsOf (fun V => Below w.heap.size w V ∧ Tb w.heap.size p V) ⟨by go_grown, Tb.new' w p 24 _ rfl⟩ ?_
    rintro V ⟨BV, hA⟩
    refine (CO _).mono ?_
    rintro e w2 ⟨rfl, B2⟩
    have A2 := hA.below B2
    have BW := belowStep BV BV.size B2
    clear hA B2 BV
    have ⟨az, aa, ab, ac, af⟩ := A2
    go_wp2_with fail
    refine (CM _).mono ?_
    rintro e w3 ⟨rfl, B3⟩
    have BW3 := belowStep BW BW.size B3
    clear az aa ab ac af A2 BW B3
    have hF := fieldI m
    go_wp2_with fail
    go_ret
    exact ⟨by simp, BW3⟩
end Go.Proofs.YteknhghmliihhaaDoor
