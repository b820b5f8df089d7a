/- What Div, Mod, SDiv, SMod do at this translation: for all words, whatever the memory. -/
import Derived.Test.YtgapcjdgakamoaaW12
namespace Go.Proofs.Ytgapcjdgakamoaa
open Go.RowKit Go.Shelf

set_option maxHeartbeats 1000000 in
theorem divide_zero (n0 n1 n2 n3 n4 n5 n6 n7 n8 n9 n10 n11 : Int) (w : World) :
    Calls Try.prog 57 #[.agg #[.int .u64 n0, .int .u64 n1, .int .u64 n2, .int .u64 n3, .int .u64 n4, .int .u64 n5, .int .u64 n6, .int .u64 n7, .int .u64 n8, .int .u64 n9, .int .u64 n10, .int .u64 n11], .agg #[.int .u64 0, .int .u64 0, .int .u64 0, .int .u64 0]] w fun e w' =>
      e = .returned (.tuple #[.agg #[.int .u64 0, .int .u64 0, .int .u64 0, .int .u64 0], .agg #[.int .u64 0, .int .u64 0, .int .u64 0, .int .u64 0]]) ∧ Below w.heap.size w w' := by
  have hne : ∀ w : World, (Op.equalIn 10000 24 (.agg #[.int .u64 0, .int .u64 0, .int .u64 0, .int .u64 0]) (.agg #[.int .u64 0, .int .u64 0, .int .u64 0, .int .u64 0])).run Try.prog w = .ok true w := fun w => by
    rw [eq4]; rfl
  go_enter Try.func57, Try.ntmps57
  go_wp2
  go_step3
  go_wp2
  go_region
  go_wp2
  rw [Exit.noGoto_ret]
  refine bodyPost_ret (v := .tuple #[.agg #[.int .u64 0, .int .u64 0, .int .u64 0, .int .u64 0], .agg #[.int .u64 0, .int .u64 0, .int .u64 0, .int .u64 0]]) (by simp [results, Try.results57, go_sem]) rfl ⟨rfl, ?_⟩
  go_grown

/-- The quotient and the remainder, both 0 by 0. -/
def qt (x y : Int) : Int := if y = 0 then 0 else x / y
def rm (x y : Int) : Int := if y = 0 then 0 else x % y

theorem divide_any (n0 n1 n2 n3 n4 n5 n6 n7 n8 n9 n10 n11 d0 d1 d2 d3 : Int) (hn : Wl n0 n1 n2 n3 n4 n5 n6 n7 n8 n9 n10 n11) (hn8 : vlong n0 n1 n2 n3 n4 n5 n6 n7 n8 n9 n10 n11 < 13407807929942597099574024998205846127479365820592393377723561443721764030073546976801874298166903427690031858186486050853753882811946569946433649006084096) (hd : Ws d0 d1 d2 d3) (w : World) :
    Calls Try.prog 57 #[.agg #[.int .u64 n0, .int .u64 n1, .int .u64 n2, .int .u64 n3, .int .u64 n4, .int .u64 n5, .int .u64 n6, .int .u64 n7, .int .u64 n8, .int .u64 n9, .int .u64 n10, .int .u64 n11], .agg #[.int .u64 d0, .int .u64 d1, .int .u64 d2, .int .u64 d3]] w fun e w' =>
      ∃ q0 q1 q2 q3 r0 r1 r2 r3 : Int, e = .returned (.tuple #[.agg #[.int .u64 q0, .int .u64 q1, .int .u64 q2, .int .u64 q3], .agg #[.int .u64 r0, .int .u64 r1, .int .u64 r2, .int .u64 r3]]) ∧ Ws q0 q1 q2 q3 ∧ Ws r0 r1 r2 r3 ∧ Hid (val q0 q1 q2 q3 = qt (vlong n0 n1 n2 n3 n4 n5 n6 n7 n8 n9 n10 n11) (val d0 d1 d2 d3) % 115792089237316195423570985008687907853269984665640564039457584007913129639936 ∧ val r0 r1 r2 r3 = rm (vlong n0 n1 n2 n3 n4 n5 n6 n7 n8 n9 n10 n11) (val d0 d1 d2 d3)) ∧ Below w.heap.size w w' := by
  by_cases h : val d0 d1 d2 d3 = 0
  · have ho : Pt 0 := ⟨by decide, by decide⟩
    obtain ⟨rfl, rfl, rfl, rfl⟩ := val_inj d0 d1 d2 d3 0 0 0 0 hd ⟨ho, ho, ho, ho⟩ (by rw [h]; rfl)
    refine (divide_zero n0 n1 n2 n3 n4 n5 n6 n7 n8 n9 n10 n11 w).mono ?_
    rintro e w1 ⟨rfl, hb⟩
    refine ⟨0, 0, 0, 0, 0, 0, 0, 0, rfl, ⟨ho, ho, ho, ho⟩, ⟨ho, ho, ho, ho⟩, ⟨?_, ?_⟩, hb⟩
    · unfold qt; rw [if_pos h]; rfl
    · unfold rm; rw [if_pos h]; rfl
  · refine (divide_nz n0 n1 n2 n3 n4 n5 n6 n7 n8 n9 n10 n11 d0 d1 d2 d3 hn hn8 hd h w).mono ?_
    rintro e w1 ⟨q0, q1, q2, q3, r0, r1, r2, r3, rfl, hq, hr, hv, hb⟩
    refine ⟨q0, q1, q2, q3, r0, r1, r2, r3, rfl, hq, hr, ⟨?_, ?_⟩, hb⟩
    · unfold qt; rw [if_neg h]; exact hv.out.1
    · unfold rm; rw [if_neg h]; exact hv.out.2

theorem long_of_word (a0 a1 a2 a3 : Int) (ha : Ws a0 a1 a2 a3) : Wl a0 a1 a2 a3 0 0 0 0 0 0 0 0 ∧ vlong a0 a1 a2 a3 0 0 0 0 0 0 0 0 = val a0 a1 a2 a3 ∧ vlong a0 a1 a2 a3 0 0 0 0 0 0 0 0 < 13407807929942597099574024998205846127479365820592393377723561443721764030073546976801874298166903427690031858186486050853753882811946569946433649006084096 := by
  have ho : Pt 0 := ⟨by decide, by decide⟩
  have hb := val_bd _ _ _ _ ha
  have e : vlong a0 a1 a2 a3 0 0 0 0 0 0 0 0 = val a0 a1 a2 a3 := by unfold vlong val; omega
  exact ⟨⟨ha.1, ha.2.1, ha.2.2.1, ha.2.2.2, ho, ho, ho, ho, ho, ho, ho, ho⟩, e, by omega⟩

theorem qt_bd (x y : Int) (hx : 0 ≤ x) (hx1 : x < 115792089237316195423570985008687907853269984665640564039457584007913129639936) (hy : 0 ≤ y) : qt x y % 115792089237316195423570985008687907853269984665640564039457584007913129639936 = qt x y := by
  unfold qt
  split
  · rfl
  · have a := Int.ediv_nonneg hx hy
    have b := Int.ediv_le_self y hx
    exact Int.emod_eq_of_lt a (by omega)

/-- Two words that lie in blocks n and n + 1, and a word 0 behind them, to be written. -/
abbrev SD (n : Nat) (a0 a1 a2 a3 b0 b1 b2 b3 : Int) (W : World) : Prop := n + 2 < W.heap.size ∧ W.cell? ⟨n, 0, none⟩ = some (.int .u64 a0) ∧ W.cell? ⟨n, 1, none⟩ = some (.int .u64 a1) ∧ W.cell? ⟨n, 2, none⟩ = some (.int .u64 a2) ∧ W.cell? ⟨n, 3, none⟩ = some (.int .u64 a3) ∧ W.cell? ⟨n + 1, 0, none⟩ = some (.int .u64 b0) ∧ W.cell? ⟨n + 1, 1, none⟩ = some (.int .u64 b1) ∧ W.cell? ⟨n + 1, 2, none⟩ = some (.int .u64 b2) ∧ W.cell? ⟨n + 1, 3, none⟩ = some (.int .u64 b3) ∧ W.cell? ⟨n + 1 + 1, 0, none⟩ = some (.int .u64 0) ∧ W.cell? ⟨n + 1 + 1, 1, none⟩ = some (.int .u64 0) ∧ W.cell? ⟨n + 1 + 1, 2, none⟩ = some (.int .u64 0) ∧ W.cell? ⟨n + 1 + 1, 3, none⟩ = some (.int .u64 0) ∧ (∀ o, W.frozen? ⟨n + 1 + 1, o, none⟩ = false)

section
variable {n : Nat} {a0 a1 a2 a3 b0 b1 b2 b3 : Int} {W W' : World}
theorem SD.keep (h : SD n a0 a1 a2 a3 b0 b1 b2 b3 W) (hb : Below (n + 3) W W') : SD n a0 a1 a2 a3 b0 b1 b2 b3 W' := by
  obtain ⟨z, h0, h1, h2, h3, h4, h5, h6, h7, h8, h9, h10, h11, hf⟩ := h
  exact ⟨Nat.lt_of_lt_of_le z hb.size, (hb.cell (p := ⟨n, 0, none⟩) (by dsimp only; omega)).trans h0, (hb.cell (p := ⟨n, 1, none⟩) (by dsimp only; omega)).trans h1, (hb.cell (p := ⟨n, 2, none⟩) (by dsimp only; omega)).trans h2, (hb.cell (p := ⟨n, 3, none⟩) (by dsimp only; omega)).trans h3, (hb.cell (p := ⟨n + 1, 0, none⟩) (by dsimp only; omega)).trans h4, (hb.cell (p := ⟨n + 1, 1, none⟩) (by dsimp only; omega)).trans h5, (hb.cell (p := ⟨n + 1, 2, none⟩) (by dsimp only; omega)).trans h6, (hb.cell (p := ⟨n + 1, 3, none⟩) (by dsimp only; omega)).trans h7, (hb.cell (p := ⟨n + 1 + 1, 0, none⟩) (by dsimp only; omega)).trans h8, (hb.cell (p := ⟨n + 1 + 1, 1, none⟩) (by dsimp only; omega)).trans h9, (hb.cell (p := ⟨n + 1 + 1, 2, none⟩) (by dsimp only; omega)).trans h10, (hb.cell (p := ⟨n + 1 + 1, 3, none⟩) (by dsimp only; omega)).trans h11, fun o => (hb.frozen (p := ⟨n + 1 + 1, o, none⟩) (by dsimp only; omega)).trans (hf o)⟩
theorem SD.alloc (h : SD n a0 a1 a2 a3 b0 b1 b2 b3 W) (o : Obj) : SD n a0 a1 a2 a3 b0 b1 b2 b3 (W.alloc o) := h.keep ((Below.refl _ W).alloc (by have := h.1; omega) o)
theorem SD.below (h : SD n a0 a1 a2 a3 b0 b1 b2 b3 W) (hb : Below W.heap.size W W') : SD n a0 a1 a2 a3 b0 b1 b2 b3 W' := h.keep (hb.mono (by have := h.1; omega))
theorem SD.drew (h : SD n a0 a1 a2 a3 b0 b1 b2 b3 W) : SD n a0 a1 a2 a3 b0 b1 b2 b3 W.drew := h
theorem SD.setCell (h : SD n a0 a1 a2 a3 b0 b1 b2 b3 W) (p : Addr) (hp : n + 3 ≤ p.block) (v : Value) : SD n a0 a1 a2 a3 b0 b1 b2 b3 (W.setCell p v) := h.keep ((Below.refl _ W).setCell hp v)
end

/-- What a memory keeps is enough to go on. -/
theorem thenOf {K : Act → World → Prop} {Q : Exit → Act → World → Prop} {x : Exit} {a : Act} {W : World} (S : World → Prop) (hS : S W) (h : ∀ W', S W' → Exit.then K Q x a W') : Exit.then K Q x a W := h W hS

set_option maxHeartbeats 4000000 in
theorem div_any (a0 a1 a2 a3 b0 b1 b2 b3 : Int) (ha : Ws a0 a1 a2 a3) (hb : Ws b0 b1 b2 b3) (w : World) :
    Calls Try.prog 18 #[.agg #[.int .u64 a0, .int .u64 a1, .int .u64 a2, .int .u64 a3], .agg #[.int .u64 b0, .int .u64 b1, .int .u64 b2, .int .u64 b3]] w fun e w' =>
      ∃ r0 r1 r2 r3 : Int, e = .returned (.agg #[.int .u64 r0, .int .u64 r1, .int .u64 r2, .int .u64 r3]) ∧ Ws r0 r1 r2 r3 ∧ Hid (val r0 r1 r2 r3 = qt (val a0 a1 a2 a3) (val b0 b1 b2 b3)) ∧ Below w.heap.size w w' := by
  obtain ⟨k1, k2, k3⟩ := long_of_word a0 a1 a2 a3 ha
  have K2 : Hid (_ = _) := k2
  clear k2
  go_enter Try.func18, Try.ntmps18
  go_wp2
  have hS00 : SD w.heap.size a0 a1 a2 a3 b0 b1 b2 b3 (((w.alloc (.cells #[.int .u64 a0, .int .u64 a1, .int .u64 a2, .int .u64 a3] 24)).alloc (.cells #[.int .u64 b0, .int .u64 b1, .int .u64 b2, .int .u64 b3] 24)).alloc (.cells #[.int .u64 0, .int .u64 0, .int .u64 0, .int .u64 0] 24)) := ⟨by simp, by simp [go_sem], by simp [go_sem], by simp [go_sem], by simp [go_sem], by simp [go_sem], by simp [go_sem], by simp [go_sem], by simp [go_sem], by simp [go_sem], by simp [go_sem], by simp [go_sem], by simp [go_sem], fun o => by simp [go_sem]⟩
  have hS0 := SD.drew hS00
  go_region_held3 (fun w' => w.heap.size + 2 < w'.heap.size ∧ w'.cell? ⟨w.heap.size, 0, none⟩ = some (.int .u64 a0) ∧ w'.cell? ⟨w.heap.size, 1, none⟩ = some (.int .u64 a1) ∧ w'.cell? ⟨w.heap.size, 2, none⟩ = some (.int .u64 a2) ∧ w'.cell? ⟨w.heap.size, 3, none⟩ = some (.int .u64 a3) ∧ w'.cell? ⟨w.heap.size + 1, 0, none⟩ = some (.int .u64 b0) ∧ w'.cell? ⟨w.heap.size + 1, 1, none⟩ = some (.int .u64 b1) ∧ w'.cell? ⟨w.heap.size + 1, 2, none⟩ = some (.int .u64 b2) ∧ w'.cell? ⟨w.heap.size + 1, 3, none⟩ = some (.int .u64 b3) ∧ w'.cell? ⟨w.heap.size + 1 + 1, 0, none⟩ = some (.int .u64 0) ∧ w'.cell? ⟨w.heap.size + 1 + 1, 1, none⟩ = some (.int .u64 0) ∧ w'.cell? ⟨w.heap.size + 1 + 1, 2, none⟩ = some (.int .u64 0) ∧ w'.cell? ⟨w.heap.size + 1 + 1, 3, none⟩ = some (.int .u64 0) ∧ (∀ o, w'.frozen? ⟨w.heap.size + 1 + 1, o, none⟩ = false)) (((repeat' (first | with_reducible exact sd2 | with_reducible exact sd1 | with_reducible exact hS0 | with_reducible exact hS00 | with_reducible exact SD.drew (SD.alloc hS00 _) | with_reducible exact SD.drew (SD.alloc (SD.alloc hS00 _) _) | with_reducible refine SD.alloc (n := w.heap.size) (a0 := a0) (a1 := a1) (a2 := a2) (a3 := a3) (b0 := b0) (b1 := b1) (b2 := b2) (b3 := b3) ?_ _ | with_reducible refine SD.setCell (n := w.heap.size) (a0 := a0) (a1 := a1) (a2 := a2) (a3 := a3) (b0 := b0) (b1 := b1) (b2 := b2) (b3 := b3) ?_ _ ?_ _ | (dsimp only; omega))); done))
    (first
      | (go_at_call 58; refine (lengthen_any a0 a1 a2 a3 _).mono ?_; rintro e w1 ⟨rfl, hb1⟩; have sd1 := SD.below (by first | with_reducible exact hS0 | with_reducible exact SD.drew (SD.alloc hS00 _) | with_reducible exact SD.drew (SD.alloc (SD.alloc hS00 _) _)) hb1; obtain ⟨hc1, hf1⟩ := oldKept hb1; have ea := hb1.size; (try simp at ea); have sa0 : w.heap.size < w1.heap.size := (by omega); have sa1 : w.heap.size + 1 < w1.heap.size := (by omega); have sa2 : w.heap.size + 1 + 1 < w1.heap.size := (by omega); have sa3 : w.heap.size < w1.heap.size + 1 := (by omega); have sa4 : w.heap.size < w1.heap.size + 1 + 1 := (by omega); (first | (have ta0 : w.heap.size + 1 + 1 + 1 < w1.heap.size := (by omega)) | skip); (first | (have ta1 : w.heap.size + 1 + 1 + 1 + 1 < w1.heap.size := (by omega)) | skip))
      | (go_at_call 57; refine (divide_any a0 a1 a2 a3 0 0 0 0 0 0 0 0 b0 b1 b2 b3 k1 k3 hb _).mono ?_; rintro e w2 ⟨q0, q1, q2, q3, r0, r1, r2, r3, rfl, hq, hr, hv, hb2⟩; have sd2 := SD.below (by first | with_reducible exact sd1 | with_reducible exact SD.alloc sd1 _ | with_reducible exact SD.alloc (SD.alloc sd1 _) _) hb2; obtain ⟨hc2, hf2⟩ := oldKept hb2; have eb := hb2.size; (try simp at eb); have sb0 : w.heap.size < w2.heap.size := (by omega); have sb1 : w.heap.size + 1 < w2.heap.size := (by omega); have sb2 : w.heap.size + 1 + 1 < w2.heap.size := (by omega); have sb3 : w.heap.size < w2.heap.size + 1 := (by omega); have sb4 : w.heap.size < w2.heap.size + 1 + 1 := (by omega); (first | (have tb0 : w.heap.size + 1 + 1 + 1 < w2.heap.size := (by omega)) | skip); (first | (have tb1 : w.heap.size + 1 + 1 + 1 + 1 < w2.heap.size := (by omega)) | skip); (first | (have u0 : w1.heap.size < w2.heap.size := (by omega)) | skip); (first | (have u1 : w1.heap.size + 1 < w2.heap.size := (by omega)) | skip)))
  · have B1 := belowStep (n := w.heap.size) (w := w) (by go_grown) (by (try simp) <;> omega) hb1
    have B2 := belowStep (n := w.heap.size) (w := w) (by go_grown) (by (try simp) <;> omega) hb2
    clear hc1 hf1 hc2 hf2
    refine thenOf (fun W => Below w.heap.size w W ∧ SD w.heap.size a0 a1 a2 a3 b0 b1 b2 b3 W ∧ W.cell? ⟨w2.heap.size, 0, none⟩ = some (.int .u64 q0) ∧ W.cell? ⟨w2.heap.size, 1, none⟩ = some (.int .u64 q1) ∧ W.cell? ⟨w2.heap.size, 2, none⟩ = some (.int .u64 q2) ∧ W.cell? ⟨w2.heap.size, 3, none⟩ = some (.int .u64 q3)) ⟨?_, ?_, ?_, ?_, ?_, ?_⟩ ?_
    · go_grown
    · repeat' (first | with_reducible exact sd2 | with_reducible refine SD.alloc (n := w.heap.size) (a0 := a0) (a1 := a1) (a2 := a2) (a3 := a3) (b0 := b0) (b1 := b1) (b2 := b2) (b3 := b3) ?_ _ | with_reducible refine SD.setCell (n := w.heap.size) (a0 := a0) (a1 := a1) (a2 := a2) (a3 := a3) (b0 := b0) (b1 := b1) (b2 := b2) (b3 := b3) ?_ _ ?_ _ | (dsimp only; omega))
    · simp [go_sem, *]
    · simp [go_sem, *]
    · simp [go_sem, *]
    · simp [go_sem, *]
    · rintro W ⟨hB, ⟨zW, x0, x1, x2, x3, y0, y1, y2, y3, z0, z1, z2, z3, zf⟩, l0, l1, l2, l3⟩
      clear hb1 hb2 sd1 sd2 hS0 hS00 B1 B2
      go_wp2
      refine bodyPost_ret (v := .agg #[.int .u64 q0, .int .u64 q1, .int .u64 q2, .int .u64 q3]) (by simp [results, Try.results18, go_sem, *]) rfl ⟨q0, q1, q2, q3, rfl, hq, ?_, ?_⟩
      · show _ = _
        rw [hv.out.1, K2.out]
        have u := val_bd _ _ _ _ ha
        exact qt_bd _ _ u.1 u.2 (val_bd _ _ _ _ hb).1
      · go_grown
  · have B1 := belowStep (n := w.heap.size) (w := w) (by go_grown) (by (try simp) <;> omega) hb1
    have B2 := belowStep (n := w.heap.size) (w := w) (by go_grown) (by (try simp) <;> omega) hb2
    clear hc1 hf1 hc2 hf2
    refine thenOf (fun W => Below w.heap.size w W ∧ SD w.heap.size a0 a1 a2 a3 b0 b1 b2 b3 W ∧ W.cell? ⟨w2.heap.size + 1, 0, none⟩ = some (.int .u64 q0) ∧ W.cell? ⟨w2.heap.size + 1, 1, none⟩ = some (.int .u64 q1) ∧ W.cell? ⟨w2.heap.size + 1, 2, none⟩ = some (.int .u64 q2) ∧ W.cell? ⟨w2.heap.size + 1, 3, none⟩ = some (.int .u64 q3)) ⟨?_, ?_, ?_, ?_, ?_, ?_⟩ ?_
    · go_grown
    · repeat' (first | with_reducible exact sd2 | with_reducible refine SD.alloc (n := w.heap.size) (a0 := a0) (a1 := a1) (a2 := a2) (a3 := a3) (b0 := b0) (b1 := b1) (b2 := b2) (b3 := b3) ?_ _ | with_reducible refine SD.setCell (n := w.heap.size) (a0 := a0) (a1 := a1) (a2 := a2) (a3 := a3) (b0 := b0) (b1 := b1) (b2 := b2) (b3 := b3) ?_ _ ?_ _ | (dsimp only; omega))
    · simp [go_sem, *]
    · simp [go_sem, *]
    · simp [go_sem, *]
    · simp [go_sem, *]
    · rintro W ⟨hB, ⟨zW, x0, x1, x2, x3, y0, y1, y2, y3, z0, z1, z2, z3, zf⟩, l0, l1, l2, l3⟩
      clear hb1 hb2 sd1 sd2 hS0 hS00 B1 B2
      go_wp2
      refine bodyPost_ret (v := .agg #[.int .u64 q0, .int .u64 q1, .int .u64 q2, .int .u64 q3]) (by simp [results, Try.results18, go_sem, *]) rfl ⟨q0, q1, q2, q3, rfl, hq, ?_, ?_⟩
      · show _ = _
        rw [hv.out.1, K2.out]
        have u := val_bd _ _ _ _ ha
        exact qt_bd _ _ u.1 u.2 (val_bd _ _ _ _ hb).1
      · go_grown
  · have k0 : w2.cell? ⟨w1.heap.size, 0, none⟩ = some (.int .u64 0) := (hb2.cell (p := ⟨w1.heap.size, 0, none⟩) (by (try simp) <;> omega)).trans (by simp [go_sem])
    have k1 : w2.cell? ⟨w1.heap.size, 1, none⟩ = some (.int .u64 0) := (hb2.cell (p := ⟨w1.heap.size, 1, none⟩) (by (try simp) <;> omega)).trans (by simp [go_sem])
    have k2 : w2.cell? ⟨w1.heap.size, 2, none⟩ = some (.int .u64 0) := (hb2.cell (p := ⟨w1.heap.size, 2, none⟩) (by (try simp) <;> omega)).trans (by simp [go_sem])
    have k3 : w2.cell? ⟨w1.heap.size, 3, none⟩ = some (.int .u64 0) := (hb2.cell (p := ⟨w1.heap.size, 3, none⟩) (by (try simp) <;> omega)).trans (by simp [go_sem])
    have B1 := belowStep (n := w.heap.size) (w := w) (by go_grown) (by (try simp) <;> omega) hb1
    have B2 := belowStep (n := w.heap.size) (w := w) (by go_grown) (by (try simp) <;> omega) hb2
    clear hc1 hf1 hc2 hf2
    refine thenOf (fun W => Below w.heap.size w W ∧ SD w.heap.size a0 a1 a2 a3 b0 b1 b2 b3 W ∧ W.cell? ⟨w1.heap.size, 0, none⟩ = some (.int .u64 q0) ∧ W.cell? ⟨w1.heap.size, 1, none⟩ = some (.int .u64 q1) ∧ W.cell? ⟨w1.heap.size, 2, none⟩ = some (.int .u64 q2) ∧ W.cell? ⟨w1.heap.size, 3, none⟩ = some (.int .u64 q3)) ⟨?_, ?_, ?_, ?_, ?_, ?_⟩ ?_
    · go_grown
    · repeat' (first | with_reducible exact sd2 | with_reducible refine SD.alloc (n := w.heap.size) (a0 := a0) (a1 := a1) (a2 := a2) (a3 := a3) (b0 := b0) (b1 := b1) (b2 := b2) (b3 := b3) ?_ _ | with_reducible refine SD.setCell (n := w.heap.size) (a0 := a0) (a1 := a1) (a2 := a2) (a3 := a3) (b0 := b0) (b1 := b1) (b2 := b2) (b3 := b3) ?_ _ ?_ _ | (dsimp only; omega))
    · simp [go_sem, *]
    · simp [go_sem, *]
    · simp [go_sem, *]
    · simp [go_sem, *]
    · rintro W ⟨hB, ⟨zW, x0, x1, x2, x3, y0, y1, y2, y3, z0, z1, z2, z3, zf⟩, l0, l1, l2, l3⟩
      clear hb1 hb2 sd1 sd2 hS0 hS00 B1 B2
      go_wp2
      refine bodyPost_ret (v := .agg #[.int .u64 q0, .int .u64 q1, .int .u64 q2, .int .u64 q3]) (by simp [results, Try.results18, go_sem, *]) rfl ⟨q0, q1, q2, q3, rfl, hq, ?_, ?_⟩
      · show _ = _
        rw [hv.out.1, K2.out]
        have u := val_bd _ _ _ _ ha
        exact qt_bd _ _ u.1 u.2 (val_bd _ _ _ _ hb).1
      · go_grown
  · have k0 : w2.cell? ⟨w1.heap.size, 0, none⟩ = some (.int .u64 0) := (hb2.cell (p := ⟨w1.heap.size, 0, none⟩) (by (try simp) <;> omega)).trans (by simp [go_sem])
    have k1 : w2.cell? ⟨w1.heap.size, 1, none⟩ = some (.int .u64 0) := (hb2.cell (p := ⟨w1.heap.size, 1, none⟩) (by (try simp) <;> omega)).trans (by simp [go_sem])
    have k2 : w2.cell? ⟨w1.heap.size, 2, none⟩ = some (.int .u64 0) := (hb2.cell (p := ⟨w1.heap.size, 2, none⟩) (by (try simp) <;> omega)).trans (by simp [go_sem])
    have k3 : w2.cell? ⟨w1.heap.size, 3, none⟩ = some (.int .u64 0) := (hb2.cell (p := ⟨w1.heap.size, 3, none⟩) (by (try simp) <;> omega)).trans (by simp [go_sem])
    have B1 := belowStep (n := w.heap.size) (w := w) (by go_grown) (by (try simp) <;> omega) hb1
    have B2 := belowStep (n := w.heap.size) (w := w) (by go_grown) (by (try simp) <;> omega) hb2
    clear hc1 hf1 hc2 hf2
    refine thenOf (fun W => Below w.heap.size w W ∧ SD w.heap.size a0 a1 a2 a3 b0 b1 b2 b3 W ∧ W.cell? ⟨w1.heap.size, 0, none⟩ = some (.int .u64 q0) ∧ W.cell? ⟨w1.heap.size, 1, none⟩ = some (.int .u64 q1) ∧ W.cell? ⟨w1.heap.size, 2, none⟩ = some (.int .u64 q2) ∧ W.cell? ⟨w1.heap.size, 3, none⟩ = some (.int .u64 q3)) ⟨?_, ?_, ?_, ?_, ?_, ?_⟩ ?_
    · go_grown
    · repeat' (first | with_reducible exact sd2 | with_reducible refine SD.alloc (n := w.heap.size) (a0 := a0) (a1 := a1) (a2 := a2) (a3 := a3) (b0 := b0) (b1 := b1) (b2 := b2) (b3 := b3) ?_ _ | with_reducible refine SD.setCell (n := w.heap.size) (a0 := a0) (a1 := a1) (a2 := a2) (a3 := a3) (b0 := b0) (b1 := b1) (b2 := b2) (b3 := b3) ?_ _ ?_ _ | (dsimp only; omega))
    · simp [go_sem, *]
    · simp [go_sem, *]
    · simp [go_sem, *]
    · simp [go_sem, *]
    · rintro W ⟨hB, ⟨zW, x0, x1, x2, x3, y0, y1, y2, y3, z0, z1, z2, z3, zf⟩, l0, l1, l2, l3⟩
      clear hb1 hb2 sd1 sd2 hS0 hS00 B1 B2
      go_wp2
      refine bodyPost_ret (v := .agg #[.int .u64 q0, .int .u64 q1, .int .u64 q2, .int .u64 q3]) (by simp [results, Try.results18, go_sem, *]) rfl ⟨q0, q1, q2, q3, rfl, hq, ?_, ?_⟩
      · show _ = _
        rw [hv.out.1, K2.out]
        have u := val_bd _ _ _ _ ha
        exact qt_bd _ _ u.1 u.2 (val_bd _ _ _ _ hb).1
      · go_grown
  · have B1 := belowStep (n := w.heap.size) (w := w) (by go_grown) (by (try simp) <;> omega) hb1
    have B2 := belowStep (n := w.heap.size) (w := w) (by go_grown) (by (try simp) <;> omega) hb2
    clear hc1 hf1 hc2 hf2
    refine thenOf (fun W => Below w.heap.size w W ∧ SD w.heap.size a0 a1 a2 a3 b0 b1 b2 b3 W ∧ W.cell? ⟨w2.heap.size, 0, none⟩ = some (.int .u64 q0) ∧ W.cell? ⟨w2.heap.size, 1, none⟩ = some (.int .u64 q1) ∧ W.cell? ⟨w2.heap.size, 2, none⟩ = some (.int .u64 q2) ∧ W.cell? ⟨w2.heap.size, 3, none⟩ = some (.int .u64 q3)) ⟨?_, ?_, ?_, ?_, ?_, ?_⟩ ?_
    · go_grown
    · repeat' (first | with_reducible exact sd2 | with_reducible refine SD.alloc (n := w.heap.size) (a0 := a0) (a1 := a1) (a2 := a2) (a3 := a3) (b0 := b0) (b1 := b1) (b2 := b2) (b3 := b3) ?_ _ | with_reducible refine SD.setCell (n := w.heap.size) (a0 := a0) (a1 := a1) (a2 := a2) (a3 := a3) (b0 := b0) (b1 := b1) (b2 := b2) (b3 := b3) ?_ _ ?_ _ | (dsimp only; omega))
    · simp [go_sem, *]
    · simp [go_sem, *]
    · simp [go_sem, *]
    · simp [go_sem, *]
    · rintro W ⟨hB, ⟨zW, x0, x1, x2, x3, y0, y1, y2, y3, z0, z1, z2, z3, zf⟩, l0, l1, l2, l3⟩
      clear hb1 hb2 sd1 sd2 hS0 hS00 B1 B2
      go_wp2
      refine bodyPost_ret (v := .agg #[.int .u64 q0, .int .u64 q1, .int .u64 q2, .int .u64 q3]) (by simp [results, Try.results18, go_sem, *]) rfl ⟨q0, q1, q2, q3, rfl, hq, ?_, ?_⟩
      · show _ = _
        rw [hv.out.1, K2.out]
        have u := val_bd _ _ _ _ ha
        exact qt_bd _ _ u.1 u.2 (val_bd _ _ _ _ hb).1
      · go_grown
  · have k0 : w2.cell? ⟨w1.heap.size + 1, 0, none⟩ = some (.int .u64 0) := (hb2.cell (p := ⟨w1.heap.size + 1, 0, none⟩) (by (try simp) <;> omega)).trans (by simp [go_sem])
    have k1 : w2.cell? ⟨w1.heap.size + 1, 1, none⟩ = some (.int .u64 0) := (hb2.cell (p := ⟨w1.heap.size + 1, 1, none⟩) (by (try simp) <;> omega)).trans (by simp [go_sem])
    have k2 : w2.cell? ⟨w1.heap.size + 1, 2, none⟩ = some (.int .u64 0) := (hb2.cell (p := ⟨w1.heap.size + 1, 2, none⟩) (by (try simp) <;> omega)).trans (by simp [go_sem])
    have k3 : w2.cell? ⟨w1.heap.size + 1, 3, none⟩ = some (.int .u64 0) := (hb2.cell (p := ⟨w1.heap.size + 1, 3, none⟩) (by (try simp) <;> omega)).trans (by simp [go_sem])
    have B1 := belowStep (n := w.heap.size) (w := w) (by go_grown) (by (try simp) <;> omega) hb1
    have B2 := belowStep (n := w.heap.size) (w := w) (by go_grown) (by (try simp) <;> omega) hb2
    clear hc1 hf1 hc2 hf2
    refine thenOf (fun W => Below w.heap.size w W ∧ SD w.heap.size a0 a1 a2 a3 b0 b1 b2 b3 W ∧ W.cell? ⟨w1.heap.size + 1, 0, none⟩ = some (.int .u64 q0) ∧ W.cell? ⟨w1.heap.size + 1, 1, none⟩ = some (.int .u64 q1) ∧ W.cell? ⟨w1.heap.size + 1, 2, none⟩ = some (.int .u64 q2) ∧ W.cell? ⟨w1.heap.size + 1, 3, none⟩ = some (.int .u64 q3)) ⟨?_, ?_, ?_, ?_, ?_, ?_⟩ ?_
    · go_grown
    · repeat' (first | with_reducible exact sd2 | with_reducible refine SD.alloc (n := w.heap.size) (a0 := a0) (a1 := a1) (a2 := a2) (a3 := a3) (b0 := b0) (b1 := b1) (b2 := b2) (b3 := b3) ?_ _ | with_reducible refine SD.setCell (n := w.heap.size) (a0 := a0) (a1 := a1) (a2 := a2) (a3 := a3) (b0 := b0) (b1 := b1) (b2 := b2) (b3 := b3) ?_ _ ?_ _ | (dsimp only; omega))
    · simp [go_sem, *]
    · simp [go_sem, *]
    · simp [go_sem, *]
    · simp [go_sem, *]
    · rintro W ⟨hB, ⟨zW, x0, x1, x2, x3, y0, y1, y2, y3, z0, z1, z2, z3, zf⟩, l0, l1, l2, l3⟩
      clear hb1 hb2 sd1 sd2 hS0 hS00 B1 B2
      go_wp2
      refine bodyPost_ret (v := .agg #[.int .u64 q0, .int .u64 q1, .int .u64 q2, .int .u64 q3]) (by simp [results, Try.results18, go_sem, *]) rfl ⟨q0, q1, q2, q3, rfl, hq, ?_, ?_⟩
      · show _ = _
        rw [hv.out.1, K2.out]
        have u := val_bd _ _ _ _ ha
        exact qt_bd _ _ u.1 u.2 (val_bd _ _ _ _ hb).1
      · go_grown
  · have j0 : w1.cell? ⟨w.heap.size + 1 + 1 + 1, 0, none⟩ = some (.int .u64 0) := (hb1.cell (p := ⟨w.heap.size + 1 + 1 + 1, 0, none⟩) (by (try simp) <;> omega)).trans (by simp [go_sem])
    have j1 : w1.cell? ⟨w.heap.size + 1 + 1 + 1, 1, none⟩ = some (.int .u64 0) := (hb1.cell (p := ⟨w.heap.size + 1 + 1 + 1, 1, none⟩) (by (try simp) <;> omega)).trans (by simp [go_sem])
    have j2 : w1.cell? ⟨w.heap.size + 1 + 1 + 1, 2, none⟩ = some (.int .u64 0) := (hb1.cell (p := ⟨w.heap.size + 1 + 1 + 1, 2, none⟩) (by (try simp) <;> omega)).trans (by simp [go_sem])
    have j3 : w1.cell? ⟨w.heap.size + 1 + 1 + 1, 3, none⟩ = some (.int .u64 0) := (hb1.cell (p := ⟨w.heap.size + 1 + 1 + 1, 3, none⟩) (by (try simp) <;> omega)).trans (by simp [go_sem])
    have k0 : w2.cell? ⟨w.heap.size + 1 + 1 + 1, 0, none⟩ = some (.int .u64 0) := (hb2.cell (p := ⟨w.heap.size + 1 + 1 + 1, 0, none⟩) (by (try simp) <;> omega)).trans (by simp [go_sem, *])
    have k1 : w2.cell? ⟨w.heap.size + 1 + 1 + 1, 1, none⟩ = some (.int .u64 0) := (hb2.cell (p := ⟨w.heap.size + 1 + 1 + 1, 1, none⟩) (by (try simp) <;> omega)).trans (by simp [go_sem, *])
    have k2 : w2.cell? ⟨w.heap.size + 1 + 1 + 1, 2, none⟩ = some (.int .u64 0) := (hb2.cell (p := ⟨w.heap.size + 1 + 1 + 1, 2, none⟩) (by (try simp) <;> omega)).trans (by simp [go_sem, *])
    have k3 : w2.cell? ⟨w.heap.size + 1 + 1 + 1, 3, none⟩ = some (.int .u64 0) := (hb2.cell (p := ⟨w.heap.size + 1 + 1 + 1, 3, none⟩) (by (try simp) <;> omega)).trans (by simp [go_sem, *])
    have B1 := belowStep (n := w.heap.size) (w := w) (by go_grown) (by (try simp) <;> omega) hb1
    have B2 := belowStep (n := w.heap.size) (w := w) (by go_grown) (by (try simp) <;> omega) hb2
    clear hc1 hf1 hc2 hf2
    refine thenOf (fun W => Below w.heap.size w W ∧ SD w.heap.size a0 a1 a2 a3 b0 b1 b2 b3 W ∧ W.cell? ⟨w.heap.size + 1 + 1 + 1, 0, none⟩ = some (.int .u64 q0) ∧ W.cell? ⟨w.heap.size + 1 + 1 + 1, 1, none⟩ = some (.int .u64 q1) ∧ W.cell? ⟨w.heap.size + 1 + 1 + 1, 2, none⟩ = some (.int .u64 q2) ∧ W.cell? ⟨w.heap.size + 1 + 1 + 1, 3, none⟩ = some (.int .u64 q3)) ⟨?_, ?_, ?_, ?_, ?_, ?_⟩ ?_
    · go_grown
    · repeat' (first | with_reducible exact sd2 | with_reducible refine SD.alloc (n := w.heap.size) (a0 := a0) (a1 := a1) (a2 := a2) (a3 := a3) (b0 := b0) (b1 := b1) (b2 := b2) (b3 := b3) ?_ _ | with_reducible refine SD.setCell (n := w.heap.size) (a0 := a0) (a1 := a1) (a2 := a2) (a3 := a3) (b0 := b0) (b1 := b1) (b2 := b2) (b3 := b3) ?_ _ ?_ _ | (dsimp only; omega))
    · simp [go_sem, *]
    · simp [go_sem, *]
    · simp [go_sem, *]
    · simp [go_sem, *]
    · rintro W ⟨hB, ⟨zW, x0, x1, x2, x3, y0, y1, y2, y3, z0, z1, z2, z3, zf⟩, l0, l1, l2, l3⟩
      clear hb1 hb2 sd1 sd2 hS0 hS00 B1 B2
      go_wp2
      refine bodyPost_ret (v := .agg #[.int .u64 q0, .int .u64 q1, .int .u64 q2, .int .u64 q3]) (by simp [results, Try.results18, go_sem, *]) rfl ⟨q0, q1, q2, q3, rfl, hq, ?_, ?_⟩
      · show _ = _
        rw [hv.out.1, K2.out]
        have u := val_bd _ _ _ _ ha
        exact qt_bd _ _ u.1 u.2 (val_bd _ _ _ _ hb).1
      · go_grown
  · have j0 : w1.cell? ⟨w.heap.size + 1 + 1 + 1, 0, none⟩ = some (.int .u64 0) := (hb1.cell (p := ⟨w.heap.size + 1 + 1 + 1, 0, none⟩) (by (try simp) <;> omega)).trans (by simp [go_sem])
    have j1 : w1.cell? ⟨w.heap.size + 1 + 1 + 1, 1, none⟩ = some (.int .u64 0) := (hb1.cell (p := ⟨w.heap.size + 1 + 1 + 1, 1, none⟩) (by (try simp) <;> omega)).trans (by simp [go_sem])
    have j2 : w1.cell? ⟨w.heap.size + 1 + 1 + 1, 2, none⟩ = some (.int .u64 0) := (hb1.cell (p := ⟨w.heap.size + 1 + 1 + 1, 2, none⟩) (by (try simp) <;> omega)).trans (by simp [go_sem])
    have j3 : w1.cell? ⟨w.heap.size + 1 + 1 + 1, 3, none⟩ = some (.int .u64 0) := (hb1.cell (p := ⟨w.heap.size + 1 + 1 + 1, 3, none⟩) (by (try simp) <;> omega)).trans (by simp [go_sem])
    have k0 : w2.cell? ⟨w.heap.size + 1 + 1 + 1, 0, none⟩ = some (.int .u64 0) := (hb2.cell (p := ⟨w.heap.size + 1 + 1 + 1, 0, none⟩) (by (try simp) <;> omega)).trans (by simp [go_sem, *])
    have k1 : w2.cell? ⟨w.heap.size + 1 + 1 + 1, 1, none⟩ = some (.int .u64 0) := (hb2.cell (p := ⟨w.heap.size + 1 + 1 + 1, 1, none⟩) (by (try simp) <;> omega)).trans (by simp [go_sem, *])
    have k2 : w2.cell? ⟨w.heap.size + 1 + 1 + 1, 2, none⟩ = some (.int .u64 0) := (hb2.cell (p := ⟨w.heap.size + 1 + 1 + 1, 2, none⟩) (by (try simp) <;> omega)).trans (by simp [go_sem, *])
    have k3 : w2.cell? ⟨w.heap.size + 1 + 1 + 1, 3, none⟩ = some (.int .u64 0) := (hb2.cell (p := ⟨w.heap.size + 1 + 1 + 1, 3, none⟩) (by (try simp) <;> omega)).trans (by simp [go_sem, *])
    have B1 := belowStep (n := w.heap.size) (w := w) (by go_grown) (by (try simp) <;> omega) hb1
    have B2 := belowStep (n := w.heap.size) (w := w) (by go_grown) (by (try simp) <;> omega) hb2
    clear hc1 hf1 hc2 hf2
    refine thenOf (fun W => Below w.heap.size w W ∧ SD w.heap.size a0 a1 a2 a3 b0 b1 b2 b3 W ∧ W.cell? ⟨w.heap.size + 1 + 1 + 1, 0, none⟩ = some (.int .u64 q0) ∧ W.cell? ⟨w.heap.size + 1 + 1 + 1, 1, none⟩ = some (.int .u64 q1) ∧ W.cell? ⟨w.heap.size + 1 + 1 + 1, 2, none⟩ = some (.int .u64 q2) ∧ W.cell? ⟨w.heap.size + 1 + 1 + 1, 3, none⟩ = some (.int .u64 q3)) ⟨?_, ?_, ?_, ?_, ?_, ?_⟩ ?_
    · go_grown
    · repeat' (first | with_reducible exact sd2 | with_reducible refine SD.alloc (n := w.heap.size) (a0 := a0) (a1 := a1) (a2 := a2) (a3 := a3) (b0 := b0) (b1 := b1) (b2 := b2) (b3 := b3) ?_ _ | with_reducible refine SD.setCell (n := w.heap.size) (a0 := a0) (a1 := a1) (a2 := a2) (a3 := a3) (b0 := b0) (b1 := b1) (b2 := b2) (b3 := b3) ?_ _ ?_ _ | (dsimp only; omega))
    · simp [go_sem, *]
    · simp [go_sem, *]
    · simp [go_sem, *]
    · simp [go_sem, *]
    · rintro W ⟨hB, ⟨zW, x0, x1, x2, x3, y0, y1, y2, y3, z0, z1, z2, z3, zf⟩, l0, l1, l2, l3⟩
      clear hb1 hb2 sd1 sd2 hS0 hS00 B1 B2
      go_wp2
      refine bodyPost_ret (v := .agg #[.int .u64 q0, .int .u64 q1, .int .u64 q2, .int .u64 q3]) (by simp [results, Try.results18, go_sem, *]) rfl ⟨q0, q1, q2, q3, rfl, hq, ?_, ?_⟩
      · show _ = _
        rw [hv.out.1, K2.out]
        have u := val_bd _ _ _ _ ha
        exact qt_bd _ _ u.1 u.2 (val_bd _ _ _ _ hb).1
      · go_grown
  · have j0 : w1.cell? ⟨w.heap.size + 1 + 1 + 1, 0, none⟩ = some (.int .u64 0) := (hb1.cell (p := ⟨w.heap.size + 1 + 1 + 1, 0, none⟩) (by (try simp) <;> omega)).trans (by simp [go_sem])
    have j1 : w1.cell? ⟨w.heap.size + 1 + 1 + 1, 1, none⟩ = some (.int .u64 0) := (hb1.cell (p := ⟨w.heap.size + 1 + 1 + 1, 1, none⟩) (by (try simp) <;> omega)).trans (by simp [go_sem])
    have j2 : w1.cell? ⟨w.heap.size + 1 + 1 + 1, 2, none⟩ = some (.int .u64 0) := (hb1.cell (p := ⟨w.heap.size + 1 + 1 + 1, 2, none⟩) (by (try simp) <;> omega)).trans (by simp [go_sem])
    have j3 : w1.cell? ⟨w.heap.size + 1 + 1 + 1, 3, none⟩ = some (.int .u64 0) := (hb1.cell (p := ⟨w.heap.size + 1 + 1 + 1, 3, none⟩) (by (try simp) <;> omega)).trans (by simp [go_sem])
    have k0 : w2.cell? ⟨w.heap.size + 1 + 1 + 1, 0, none⟩ = some (.int .u64 0) := (hb2.cell (p := ⟨w.heap.size + 1 + 1 + 1, 0, none⟩) (by (try simp) <;> omega)).trans (by simp [go_sem, *])
    have k1 : w2.cell? ⟨w.heap.size + 1 + 1 + 1, 1, none⟩ = some (.int .u64 0) := (hb2.cell (p := ⟨w.heap.size + 1 + 1 + 1, 1, none⟩) (by (try simp) <;> omega)).trans (by simp [go_sem, *])
    have k2 : w2.cell? ⟨w.heap.size + 1 + 1 + 1, 2, none⟩ = some (.int .u64 0) := (hb2.cell (p := ⟨w.heap.size + 1 + 1 + 1, 2, none⟩) (by (try simp) <;> omega)).trans (by simp [go_sem, *])
    have k3 : w2.cell? ⟨w.heap.size + 1 + 1 + 1, 3, none⟩ = some (.int .u64 0) := (hb2.cell (p := ⟨w.heap.size + 1 + 1 + 1, 3, none⟩) (by (try simp) <;> omega)).trans (by simp [go_sem, *])
    have B1 := belowStep (n := w.heap.size) (w := w) (by go_grown) (by (try simp) <;> omega) hb1
    have B2 := belowStep (n := w.heap.size) (w := w) (by go_grown) (by (try simp) <;> omega) hb2
    clear hc1 hf1 hc2 hf2
    refine thenOf (fun W => Below w.heap.size w W ∧ SD w.heap.size a0 a1 a2 a3 b0 b1 b2 b3 W ∧ W.cell? ⟨w.heap.size + 1 + 1 + 1, 0, none⟩ = some (.int .u64 q0) ∧ W.cell? ⟨w.heap.size + 1 + 1 + 1, 1, none⟩ = some (.int .u64 q1) ∧ W.cell? ⟨w.heap.size + 1 + 1 + 1, 2, none⟩ = some (.int .u64 q2) ∧ W.cell? ⟨w.heap.size + 1 + 1 + 1, 3, none⟩ = some (.int .u64 q3)) ⟨?_, ?_, ?_, ?_, ?_, ?_⟩ ?_
    · go_grown
    · repeat' (first | with_reducible exact sd2 | with_reducible refine SD.alloc (n := w.heap.size) (a0 := a0) (a1 := a1) (a2 := a2) (a3 := a3) (b0 := b0) (b1 := b1) (b2 := b2) (b3 := b3) ?_ _ | with_reducible refine SD.setCell (n := w.heap.size) (a0 := a0) (a1 := a1) (a2 := a2) (a3 := a3) (b0 := b0) (b1 := b1) (b2 := b2) (b3 := b3) ?_ _ ?_ _ | (dsimp only; omega))
    · simp [go_sem, *]
    · simp [go_sem, *]
    · simp [go_sem, *]
    · simp [go_sem, *]
    · rintro W ⟨hB, ⟨zW, x0, x1, x2, x3, y0, y1, y2, y3, z0, z1, z2, z3, zf⟩, l0, l1, l2, l3⟩
      clear hb1 hb2 sd1 sd2 hS0 hS00 B1 B2
      go_wp2
      refine bodyPost_ret (v := .agg #[.int .u64 q0, .int .u64 q1, .int .u64 q2, .int .u64 q3]) (by simp [results, Try.results18, go_sem, *]) rfl ⟨q0, q1, q2, q3, rfl, hq, ?_, ?_⟩
      · show _ = _
        rw [hv.out.1, K2.out]
        have u := val_bd _ _ _ _ ha
        exact qt_bd _ _ u.1 u.2 (val_bd _ _ _ _ hb).1
      · go_grown
  · have B1 := belowStep (n := w.heap.size) (w := w) (by go_grown) (by (try simp) <;> omega) hb1
    have B2 := belowStep (n := w.heap.size) (w := w) (by go_grown) (by (try simp) <;> omega) hb2
    clear hc1 hf1 hc2 hf2
    refine thenOf (fun W => Below w.heap.size w W ∧ SD w.heap.size a0 a1 a2 a3 b0 b1 b2 b3 W ∧ W.cell? ⟨w2.heap.size, 0, none⟩ = some (.int .u64 q0) ∧ W.cell? ⟨w2.heap.size, 1, none⟩ = some (.int .u64 q1) ∧ W.cell? ⟨w2.heap.size, 2, none⟩ = some (.int .u64 q2) ∧ W.cell? ⟨w2.heap.size, 3, none⟩ = some (.int .u64 q3)) ⟨?_, ?_, ?_, ?_, ?_, ?_⟩ ?_
    · go_grown
    · repeat' (first | with_reducible exact sd2 | with_reducible refine SD.alloc (n := w.heap.size) (a0 := a0) (a1 := a1) (a2 := a2) (a3 := a3) (b0 := b0) (b1 := b1) (b2 := b2) (b3 := b3) ?_ _ | with_reducible refine SD.setCell (n := w.heap.size) (a0 := a0) (a1 := a1) (a2 := a2) (a3 := a3) (b0 := b0) (b1 := b1) (b2 := b2) (b3 := b3) ?_ _ ?_ _ | (dsimp only; omega))
    · simp [go_sem, *]
    · simp [go_sem, *]
    · simp [go_sem, *]
    · simp [go_sem, *]
    · rintro W ⟨hB, ⟨zW, x0, x1, x2, x3, y0, y1, y2, y3, z0, z1, z2, z3, zf⟩, l0, l1, l2, l3⟩
      clear hb1 hb2 sd1 sd2 hS0 hS00 B1 B2
      go_wp2
      refine bodyPost_ret (v := .agg #[.int .u64 q0, .int .u64 q1, .int .u64 q2, .int .u64 q3]) (by simp [results, Try.results18, go_sem, *]) rfl ⟨q0, q1, q2, q3, rfl, hq, ?_, ?_⟩
      · show _ = _
        rw [hv.out.1, K2.out]
        have u := val_bd _ _ _ _ ha
        exact qt_bd _ _ u.1 u.2 (val_bd _ _ _ _ hb).1
      · go_grown
  · have k0 : w2.cell? ⟨w1.heap.size, 0, none⟩ = some (.int .u64 0) := (hb2.cell (p := ⟨w1.heap.size, 0, none⟩) (by (try simp) <;> omega)).trans (by simp [go_sem])
    have k1 : w2.cell? ⟨w1.heap.size, 1, none⟩ = some (.int .u64 0) := (hb2.cell (p := ⟨w1.heap.size, 1, none⟩) (by (try simp) <;> omega)).trans (by simp [go_sem])
    have k2 : w2.cell? ⟨w1.heap.size, 2, none⟩ = some (.int .u64 0) := (hb2.cell (p := ⟨w1.heap.size, 2, none⟩) (by (try simp) <;> omega)).trans (by simp [go_sem])
    have k3 : w2.cell? ⟨w1.heap.size, 3, none⟩ = some (.int .u64 0) := (hb2.cell (p := ⟨w1.heap.size, 3, none⟩) (by (try simp) <;> omega)).trans (by simp [go_sem])
    have B1 := belowStep (n := w.heap.size) (w := w) (by go_grown) (by (try simp) <;> omega) hb1
    have B2 := belowStep (n := w.heap.size) (w := w) (by go_grown) (by (try simp) <;> omega) hb2
    clear hc1 hf1 hc2 hf2
    refine thenOf (fun W => Below w.heap.size w W ∧ SD w.heap.size a0 a1 a2 a3 b0 b1 b2 b3 W ∧ W.cell? ⟨w1.heap.size, 0, none⟩ = some (.int .u64 q0) ∧ W.cell? ⟨w1.heap.size, 1, none⟩ = some (.int .u64 q1) ∧ W.cell? ⟨w1.heap.size, 2, none⟩ = some (.int .u64 q2) ∧ W.cell? ⟨w1.heap.size, 3, none⟩ = some (.int .u64 q3)) ⟨?_, ?_, ?_, ?_, ?_, ?_⟩ ?_
    · go_grown
    · repeat' (first | with_reducible exact sd2 | with_reducible refine SD.alloc (n := w.heap.size) (a0 := a0) (a1 := a1) (a2 := a2) (a3 := a3) (b0 := b0) (b1 := b1) (b2 := b2) (b3 := b3) ?_ _ | with_reducible refine SD.setCell (n := w.heap.size) (a0 := a0) (a1 := a1) (a2 := a2) (a3 := a3) (b0 := b0) (b1 := b1) (b2 := b2) (b3 := b3) ?_ _ ?_ _ | (dsimp only; omega))
    · simp [go_sem, *]
    · simp [go_sem, *]
    · simp [go_sem, *]
    · simp [go_sem, *]
    · rintro W ⟨hB, ⟨zW, x0, x1, x2, x3, y0, y1, y2, y3, z0, z1, z2, z3, zf⟩, l0, l1, l2, l3⟩
      clear hb1 hb2 sd1 sd2 hS0 hS00 B1 B2
      go_wp2
      refine bodyPost_ret (v := .agg #[.int .u64 q0, .int .u64 q1, .int .u64 q2, .int .u64 q3]) (by simp [results, Try.results18, go_sem, *]) rfl ⟨q0, q1, q2, q3, rfl, hq, ?_, ?_⟩
      · show _ = _
        rw [hv.out.1, K2.out]
        have u := val_bd _ _ _ _ ha
        exact qt_bd _ _ u.1 u.2 (val_bd _ _ _ _ hb).1
      · go_grown
  · have j0 : w1.cell? ⟨w.heap.size + 1 + 1 + 1 + 1, 0, none⟩ = some (.int .u64 0) := (hb1.cell (p := ⟨w.heap.size + 1 + 1 + 1 + 1, 0, none⟩) (by (try simp) <;> omega)).trans (by simp [go_sem])
    have j1 : w1.cell? ⟨w.heap.size + 1 + 1 + 1 + 1, 1, none⟩ = some (.int .u64 0) := (hb1.cell (p := ⟨w.heap.size + 1 + 1 + 1 + 1, 1, none⟩) (by (try simp) <;> omega)).trans (by simp [go_sem])
    have j2 : w1.cell? ⟨w.heap.size + 1 + 1 + 1 + 1, 2, none⟩ = some (.int .u64 0) := (hb1.cell (p := ⟨w.heap.size + 1 + 1 + 1 + 1, 2, none⟩) (by (try simp) <;> omega)).trans (by simp [go_sem])
    have j3 : w1.cell? ⟨w.heap.size + 1 + 1 + 1 + 1, 3, none⟩ = some (.int .u64 0) := (hb1.cell (p := ⟨w.heap.size + 1 + 1 + 1 + 1, 3, none⟩) (by (try simp) <;> omega)).trans (by simp [go_sem])
    have k0 : w2.cell? ⟨w.heap.size + 1 + 1 + 1 + 1, 0, none⟩ = some (.int .u64 0) := (hb2.cell (p := ⟨w.heap.size + 1 + 1 + 1 + 1, 0, none⟩) (by (try simp) <;> omega)).trans (by simp [go_sem, *])
    have k1 : w2.cell? ⟨w.heap.size + 1 + 1 + 1 + 1, 1, none⟩ = some (.int .u64 0) := (hb2.cell (p := ⟨w.heap.size + 1 + 1 + 1 + 1, 1, none⟩) (by (try simp) <;> omega)).trans (by simp [go_sem, *])
    have k2 : w2.cell? ⟨w.heap.size + 1 + 1 + 1 + 1, 2, none⟩ = some (.int .u64 0) := (hb2.cell (p := ⟨w.heap.size + 1 + 1 + 1 + 1, 2, none⟩) (by (try simp) <;> omega)).trans (by simp [go_sem, *])
    have k3 : w2.cell? ⟨w.heap.size + 1 + 1 + 1 + 1, 3, none⟩ = some (.int .u64 0) := (hb2.cell (p := ⟨w.heap.size + 1 + 1 + 1 + 1, 3, none⟩) (by (try simp) <;> omega)).trans (by simp [go_sem, *])
    have B1 := belowStep (n := w.heap.size) (w := w) (by go_grown) (by (try simp) <;> omega) hb1
    have B2 := belowStep (n := w.heap.size) (w := w) (by go_grown) (by (try simp) <;> omega) hb2
    clear hc1 hf1 hc2 hf2
    refine thenOf (fun W => Below w.heap.size w W ∧ SD w.heap.size a0 a1 a2 a3 b0 b1 b2 b3 W ∧ W.cell? ⟨w.heap.size + 1 + 1 + 1 + 1, 0, none⟩ = some (.int .u64 q0) ∧ W.cell? ⟨w.heap.size + 1 + 1 + 1 + 1, 1, none⟩ = some (.int .u64 q1) ∧ W.cell? ⟨w.heap.size + 1 + 1 + 1 + 1, 2, none⟩ = some (.int .u64 q2) ∧ W.cell? ⟨w.heap.size + 1 + 1 + 1 + 1, 3, none⟩ = some (.int .u64 q3)) ⟨?_, ?_, ?_, ?_, ?_, ?_⟩ ?_
    · go_grown
    · repeat' (first | with_reducible exact sd2 | with_reducible refine SD.alloc (n := w.heap.size) (a0 := a0) (a1 := a1) (a2 := a2) (a3 := a3) (b0 := b0) (b1 := b1) (b2 := b2) (b3 := b3) ?_ _ | with_reducible refine SD.setCell (n := w.heap.size) (a0 := a0) (a1 := a1) (a2 := a2) (a3 := a3) (b0 := b0) (b1 := b1) (b2 := b2) (b3 := b3) ?_ _ ?_ _ | (dsimp only; omega))
    · simp [go_sem, *]
    · simp [go_sem, *]
    · simp [go_sem, *]
    · simp [go_sem, *]
    · rintro W ⟨hB, ⟨zW, x0, x1, x2, x3, y0, y1, y2, y3, z0, z1, z2, z3, zf⟩, l0, l1, l2, l3⟩
      clear hb1 hb2 sd1 sd2 hS0 hS00 B1 B2
      go_wp2
      refine bodyPost_ret (v := .agg #[.int .u64 q0, .int .u64 q1, .int .u64 q2, .int .u64 q3]) (by simp [results, Try.results18, go_sem, *]) rfl ⟨q0, q1, q2, q3, rfl, hq, ?_, ?_⟩
      · show _ = _
        rw [hv.out.1, K2.out]
        have u := val_bd _ _ _ _ ha
        exact qt_bd _ _ u.1 u.2 (val_bd _ _ _ _ hb).1
      · go_grown
end Go.Proofs.Ytgapcjdgakamoaa
