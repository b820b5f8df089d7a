/- What the law's shown does; the walks of CurveAdds, CurveTimes, CurveLaws, CurveFew. No condition. -/
import Derived.Test.YteknhghmliihhaaDoorC6
import Derived.Test.YteknhghmliihhaaDoorC7
namespace Go.Proofs.YteknhghmliihhaaDoor
open Go.RowKit Go.Shelf Go.Sort

theorem ut_gen : UT gN := ⟨by decide, by decide⟩
theorem ut_dbl : UT dN := ⟨by decide, by decide⟩
theorem add_gen (w : World) (hL : Li w) : Calls Tryd.prog 58 #[vT gN, vT gN] w fun e w' => e = .returned (okT dN) ∧ Below w.heap.size w w' := by
  have h := add_all gN gN ut_gen ut_gen w hL
  unfold addV at h
  rw [on_gen, Bool.and_self, if_pos rfl, dbl_gen] at h
  exact h
theorem two_gen (w : World) (hL : Li w) : Calls Tryd.prog 42 #[.int .u64 2, vT gN] w fun e w' => e = .returned (okT dN) ∧ Below w.heap.size w w' := by
  have h := times_all 2 (by unfold U64; omega) gN ut_gen w hL
  unfold timV at h
  rw [on_gen, if_pos rfl, tm_2, dbl_gen] at h
  exact h

theorem inClassL {f : Nat} {args : Array Value} {v : Value} {w : World} (h : ∀ W, Li W → Calls Tryd.prog f args W fun e w' => e = .returned v ∧ Below W.heap.size W w') (hL : Li w) :
    ∀ d os, Calls Tryd.prog f args (grow (redrawn w d) os) fun e w'' => e = .returned v ∧ ∃ p : Regrown, w'' = grow (redrawn w p.d) p.os := fun _ _ => Calls.regrown_of (h _ (hL.below (below_regrown _ _ _)))
theorem neqT (p q : Pt) (W : World) : (binOp .neq 24 (vT p) (vT q)).run Tryd.prog W = .ok (.bool (!decide (p = q))) W := by
  obtain ⟨pX, pY, pI⟩ := p
  obtain ⟨qX, qY, qI⟩ := q
  by_cases h1 : pX = qX
  · by_cases h2 : pY = qY
    · by_cases h3 : pI = qI
      · subst h1 h2 h3; simp [go_sem]
      · subst h1 h2; simp [go_sem, h3]
    · subst h1
      have h2' : ¬ (pY : Int) = qY := by omega
      simp [go_sem, h2, h2']
  · have h1' : ¬ (pX : Int) = qX := by omega
    simp [go_sem, h1, h1']
theorem Li.alloc {w : World} (h : Li w) (o : Obj) : Li (w.alloc o) := h.below ((Below.refl _ _).alloc (Nat.le_refl _) _)

end Go.Proofs.YteknhghmliihhaaDoor
