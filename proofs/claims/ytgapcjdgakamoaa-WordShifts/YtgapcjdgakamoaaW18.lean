/- What product and Mul do at this translation: for all words, whatever the memory. -/
import Derived.Test.YtgapcjdgakamoaaLaw
import Derived.Laws.IdiomCopy
namespace Go.Proofs.Ytgapcjdgakamoaa
open Go.RowKit Go.Shelf Go.Sort

/-- The memory of a product between two rounds: the first word, the result's place, the sum so far. -/
structure PS (n : Nat) (a0 a1 a2 a3 x0 x1 x2 x3 x4 x5 x6 x7 x8 x9 x10 x11 : Int) (W : World) : Prop where
  A : Cw n a0 a1 a2 a3 W
  z : n + 1 + 1 + 1 < W.heap.size
  p0 : W.cell? ⟨n + 1 + 1 + 1, 0, none⟩ = some (.int .u64 x0)
  p1 : W.cell? ⟨n + 1 + 1 + 1, 1, none⟩ = some (.int .u64 x1)
  p2 : W.cell? ⟨n + 1 + 1 + 1, 2, none⟩ = some (.int .u64 x2)
  p3 : W.cell? ⟨n + 1 + 1 + 1, 3, none⟩ = some (.int .u64 x3)
  p4 : W.cell? ⟨n + 1 + 1 + 1, 4, none⟩ = some (.int .u64 x4)
  p5 : W.cell? ⟨n + 1 + 1 + 1, 5, none⟩ = some (.int .u64 x5)
  p6 : W.cell? ⟨n + 1 + 1 + 1, 6, none⟩ = some (.int .u64 x6)
  p7 : W.cell? ⟨n + 1 + 1 + 1, 7, none⟩ = some (.int .u64 x7)
  p8 : W.cell? ⟨n + 1 + 1 + 1, 8, none⟩ = some (.int .u64 x8)
  p9 : W.cell? ⟨n + 1 + 1 + 1, 9, none⟩ = some (.int .u64 x9)
  p10 : W.cell? ⟨n + 1 + 1 + 1, 10, none⟩ = some (.int .u64 x10)
  p11 : W.cell? ⟨n + 1 + 1 + 1, 11, none⟩ = some (.int .u64 x11)
  pf : ∀ o, W.frozen? ⟨n + 1 + 1 + 1, o, none⟩ = false
  q0 : W.cell? ⟨n + 1 + 1, 0, none⟩ = some (.int .u64 0)
  q1 : W.cell? ⟨n + 1 + 1, 1, none⟩ = some (.int .u64 0)
  q2 : W.cell? ⟨n + 1 + 1, 2, none⟩ = some (.int .u64 0)
  q3 : W.cell? ⟨n + 1 + 1, 3, none⟩ = some (.int .u64 0)
  q4 : W.cell? ⟨n + 1 + 1, 4, none⟩ = some (.int .u64 0)
  q5 : W.cell? ⟨n + 1 + 1, 5, none⟩ = some (.int .u64 0)
  q6 : W.cell? ⟨n + 1 + 1, 6, none⟩ = some (.int .u64 0)
  q7 : W.cell? ⟨n + 1 + 1, 7, none⟩ = some (.int .u64 0)
  q8 : W.cell? ⟨n + 1 + 1, 8, none⟩ = some (.int .u64 0)
  q9 : W.cell? ⟨n + 1 + 1, 9, none⟩ = some (.int .u64 0)
  q10 : W.cell? ⟨n + 1 + 1, 10, none⟩ = some (.int .u64 0)
  q11 : W.cell? ⟨n + 1 + 1, 11, none⟩ = some (.int .u64 0)
  qf : ∀ o, W.frozen? ⟨n + 1 + 1, o, none⟩ = false

section
variable {n : Nat} {a0 a1 a2 a3 x0 x1 x2 x3 x4 x5 x6 x7 x8 x9 x10 x11 : Int} {W W' : World}
theorem PS.below (h : PS n a0 a1 a2 a3 x0 x1 x2 x3 x4 x5 x6 x7 x8 x9 x10 x11 W) (hb : Below W.heap.size W W') : PS n a0 a1 a2 a3 x0 x1 x2 x3 x4 x5 x6 x7 x8 x9 x10 x11 W' := by
  have z := h.z
  exact ⟨h.A.below hb, Nat.lt_of_lt_of_le h.z hb.size, (hb.cell (p := ⟨n + 1 + 1 + 1, 0, none⟩) z).trans h.p0, (hb.cell (p := ⟨n + 1 + 1 + 1, 1, none⟩) z).trans h.p1, (hb.cell (p := ⟨n + 1 + 1 + 1, 2, none⟩) z).trans h.p2, (hb.cell (p := ⟨n + 1 + 1 + 1, 3, none⟩) z).trans h.p3, (hb.cell (p := ⟨n + 1 + 1 + 1, 4, none⟩) z).trans h.p4, (hb.cell (p := ⟨n + 1 + 1 + 1, 5, none⟩) z).trans h.p5, (hb.cell (p := ⟨n + 1 + 1 + 1, 6, none⟩) z).trans h.p6, (hb.cell (p := ⟨n + 1 + 1 + 1, 7, none⟩) z).trans h.p7, (hb.cell (p := ⟨n + 1 + 1 + 1, 8, none⟩) z).trans h.p8, (hb.cell (p := ⟨n + 1 + 1 + 1, 9, none⟩) z).trans h.p9, (hb.cell (p := ⟨n + 1 + 1 + 1, 10, none⟩) z).trans h.p10, (hb.cell (p := ⟨n + 1 + 1 + 1, 11, none⟩) z).trans h.p11, fun o => (hb.frozen (p := ⟨n + 1 + 1 + 1, o, none⟩) z).trans (h.pf o), (hb.cell (p := ⟨n + 1 + 1, 0, none⟩) (by dsimp only; omega)).trans h.q0, (hb.cell (p := ⟨n + 1 + 1, 1, none⟩) (by dsimp only; omega)).trans h.q1, (hb.cell (p := ⟨n + 1 + 1, 2, none⟩) (by dsimp only; omega)).trans h.q2, (hb.cell (p := ⟨n + 1 + 1, 3, none⟩) (by dsimp only; omega)).trans h.q3, (hb.cell (p := ⟨n + 1 + 1, 4, none⟩) (by dsimp only; omega)).trans h.q4, (hb.cell (p := ⟨n + 1 + 1, 5, none⟩) (by dsimp only; omega)).trans h.q5, (hb.cell (p := ⟨n + 1 + 1, 6, none⟩) (by dsimp only; omega)).trans h.q6, (hb.cell (p := ⟨n + 1 + 1, 7, none⟩) (by dsimp only; omega)).trans h.q7, (hb.cell (p := ⟨n + 1 + 1, 8, none⟩) (by dsimp only; omega)).trans h.q8, (hb.cell (p := ⟨n + 1 + 1, 9, none⟩) (by dsimp only; omega)).trans h.q9, (hb.cell (p := ⟨n + 1 + 1, 10, none⟩) (by dsimp only; omega)).trans h.q10, (hb.cell (p := ⟨n + 1 + 1, 11, none⟩) (by dsimp only; omega)).trans h.q11, fun o => (hb.frozen (p := ⟨n + 1 + 1, o, none⟩) (by dsimp only; omega)).trans (h.qf o)⟩
theorem PS.drew (h : PS n a0 a1 a2 a3 x0 x1 x2 x3 x4 x5 x6 x7 x8 x9 x10 x11 W) : PS n a0 a1 a2 a3 x0 x1 x2 x3 x4 x5 x6 x7 x8 x9 x10 x11 W.drew := ⟨h.A.drew, h.z, h.p0, h.p1, h.p2, h.p3, h.p4, h.p5, h.p6, h.p7, h.p8, h.p9, h.p10, h.p11, h.pf, h.q0, h.q1, h.q2, h.q3, h.q4, h.q5, h.q6, h.q7, h.q8, h.q9, h.q10, h.q11, h.qf⟩
set_option maxHeartbeats 1000000 in
theorem PS.step0 (h : PS n a0 a1 a2 a3 x0 x1 x2 x3 x4 x5 x6 x7 x8 x9 x10 x11 W) (s0 s1 s2 s3 t : Int) : PS n a0 a1 a2 a3 s0 s1 s2 s3 t x5 x6 x7 x8 x9 x10 x11 (((((W.setCell ⟨n + 1 + 1 + 1, 0, none⟩ (.int .u64 s0)).setCell ⟨n + 1 + 1 + 1, 1, none⟩ (.int .u64 s1)).setCell ⟨n + 1 + 1 + 1, 2, none⟩ (.int .u64 s2)).setCell ⟨n + 1 + 1 + 1, 3, none⟩ (.int .u64 s3)).setCell ⟨n + 1 + 1 + 1, 4, none⟩ (.int .u64 t)) := by
  obtain ⟨⟨z0, c0, c1, c2, c3⟩, z, p0, p1, p2, p3, p4, p5, p6, p7, p8, p9, p10, p11, pf, q0, q1, q2, q3, q4, q5, q6, q7, q8, q9, q10, q11, qf⟩ := h
  exact ⟨⟨by simp [go_sem, *], by simp [go_sem, *], by simp [go_sem, *], by simp [go_sem, *], by simp [go_sem, *]⟩, by simp [go_sem, *], by simp [go_sem, *], by simp [go_sem, *], by simp [go_sem, *], by simp [go_sem, *], by simp [go_sem, *], by simp [go_sem, *], by simp [go_sem, *], by simp [go_sem, *], by simp [go_sem, *], by simp [go_sem, *], by simp [go_sem, *], by simp [go_sem, *], by simp [go_sem, *], by simp [go_sem, *], by simp [go_sem, *], by simp [go_sem, *], by simp [go_sem, *], by simp [go_sem, *], by simp [go_sem, *], by simp [go_sem, *], by simp [go_sem, *], by simp [go_sem, *], by simp [go_sem, *], by simp [go_sem, *], by simp [go_sem, *], by simp [go_sem, *]⟩
set_option maxHeartbeats 1000000 in
theorem PS.step1 (h : PS n a0 a1 a2 a3 x0 x1 x2 x3 x4 x5 x6 x7 x8 x9 x10 x11 W) (s0 s1 s2 s3 t : Int) : PS n a0 a1 a2 a3 x0 s0 s1 s2 s3 t x6 x7 x8 x9 x10 x11 (((((W.setCell ⟨n + 1 + 1 + 1, 1, none⟩ (.int .u64 s0)).setCell ⟨n + 1 + 1 + 1, 2, none⟩ (.int .u64 s1)).setCell ⟨n + 1 + 1 + 1, 3, none⟩ (.int .u64 s2)).setCell ⟨n + 1 + 1 + 1, 4, none⟩ (.int .u64 s3)).setCell ⟨n + 1 + 1 + 1, 5, none⟩ (.int .u64 t)) := by
  obtain ⟨⟨z0, c0, c1, c2, c3⟩, z, p0, p1, p2, p3, p4, p5, p6, p7, p8, p9, p10, p11, pf, q0, q1, q2, q3, q4, q5, q6, q7, q8, q9, q10, q11, qf⟩ := h
  exact ⟨⟨by simp [go_sem, *], by simp [go_sem, *], by simp [go_sem, *], by simp [go_sem, *], by simp [go_sem, *]⟩, by simp [go_sem, *], by simp [go_sem, *], by simp [go_sem, *], by simp [go_sem, *], by simp [go_sem, *], by simp [go_sem, *], by simp [go_sem, *], by simp [go_sem, *], by simp [go_sem, *], by simp [go_sem, *], by simp [go_sem, *], by simp [go_sem, *], by simp [go_sem, *], by simp [go_sem, *], by simp [go_sem, *], by simp [go_sem, *], by simp [go_sem, *], by simp [go_sem, *], by simp [go_sem, *], by simp [go_sem, *], by simp [go_sem, *], by simp [go_sem, *], by simp [go_sem, *], by simp [go_sem, *], by simp [go_sem, *], by simp [go_sem, *], by simp [go_sem, *]⟩
set_option maxHeartbeats 1000000 in
theorem PS.step2 (h : PS n a0 a1 a2 a3 x0 x1 x2 x3 x4 x5 x6 x7 x8 x9 x10 x11 W) (s0 s1 s2 s3 t : Int) : PS n a0 a1 a2 a3 x0 x1 s0 s1 s2 s3 t x7 x8 x9 x10 x11 (((((W.setCell ⟨n + 1 + 1 + 1, 2, none⟩ (.int .u64 s0)).setCell ⟨n + 1 + 1 + 1, 3, none⟩ (.int .u64 s1)).setCell ⟨n + 1 + 1 + 1, 4, none⟩ (.int .u64 s2)).setCell ⟨n + 1 + 1 + 1, 5, none⟩ (.int .u64 s3)).setCell ⟨n + 1 + 1 + 1, 6, none⟩ (.int .u64 t)) := by
  obtain ⟨⟨z0, c0, c1, c2, c3⟩, z, p0, p1, p2, p3, p4, p5, p6, p7, p8, p9, p10, p11, pf, q0, q1, q2, q3, q4, q5, q6, q7, q8, q9, q10, q11, qf⟩ := h
  exact ⟨⟨by simp [go_sem, *], by simp [go_sem, *], by simp [go_sem, *], by simp [go_sem, *], by simp [go_sem, *]⟩, by simp [go_sem, *], by simp [go_sem, *], by simp [go_sem, *], by simp [go_sem, *], by simp [go_sem, *], by simp [go_sem, *], by simp [go_sem, *], by simp [go_sem, *], by simp [go_sem, *], by simp [go_sem, *], by simp [go_sem, *], by simp [go_sem, *], by simp [go_sem, *], by simp [go_sem, *], by simp [go_sem, *], by simp [go_sem, *], by simp [go_sem, *], by simp [go_sem, *], by simp [go_sem, *], by simp [go_sem, *], by simp [go_sem, *], by simp [go_sem, *], by simp [go_sem, *], by simp [go_sem, *], by simp [go_sem, *], by simp [go_sem, *], by simp [go_sem, *]⟩
set_option maxHeartbeats 1000000 in
theorem PS.step3 (h : PS n a0 a1 a2 a3 x0 x1 x2 x3 x4 x5 x6 x7 x8 x9 x10 x11 W) (s0 s1 s2 s3 t : Int) : PS n a0 a1 a2 a3 x0 x1 x2 s0 s1 s2 s3 t x8 x9 x10 x11 (((((W.setCell ⟨n + 1 + 1 + 1, 3, none⟩ (.int .u64 s0)).setCell ⟨n + 1 + 1 + 1, 4, none⟩ (.int .u64 s1)).setCell ⟨n + 1 + 1 + 1, 5, none⟩ (.int .u64 s2)).setCell ⟨n + 1 + 1 + 1, 6, none⟩ (.int .u64 s3)).setCell ⟨n + 1 + 1 + 1, 7, none⟩ (.int .u64 t)) := by
  obtain ⟨⟨z0, c0, c1, c2, c3⟩, z, p0, p1, p2, p3, p4, p5, p6, p7, p8, p9, p10, p11, pf, q0, q1, q2, q3, q4, q5, q6, q7, q8, q9, q10, q11, qf⟩ := h
  exact ⟨⟨by simp [go_sem, *], by simp [go_sem, *], by simp [go_sem, *], by simp [go_sem, *], by simp [go_sem, *]⟩, by simp [go_sem, *], by simp [go_sem, *], by simp [go_sem, *], by simp [go_sem, *], by simp [go_sem, *], by simp [go_sem, *], by simp [go_sem, *], by simp [go_sem, *], by simp [go_sem, *], by simp [go_sem, *], by simp [go_sem, *], by simp [go_sem, *], by simp [go_sem, *], by simp [go_sem, *], by simp [go_sem, *], by simp [go_sem, *], by simp [go_sem, *], by simp [go_sem, *], by simp [go_sem, *], by simp [go_sem, *], by simp [go_sem, *], by simp [go_sem, *], by simp [go_sem, *], by simp [go_sem, *], by simp [go_sem, *], by simp [go_sem, *], by simp [go_sem, *]⟩
end

theorem four_src {n : Nat} {a0 a1 a2 a3 : Int} {W : World} (h : Cw n a0 a1 a2 a3 W) : ∀ (j : Nat) (v : Value), ([.int .u64 a0, .int .u64 a1, .int .u64 a2, .int .u64 a3] : List Value)[j]? = some v → W.cell? ((⟨n, 0, none⟩ : Addr).add j) = some v := by
  intro j v hj
  match j, hj with
  | 0, hj => simp at hj; subst hj; simpa [Addr.add] using h.c0
  | 1, hj => simp at hj; subst hj; simpa [Addr.add] using h.c1
  | 2, hj => simp at hj; subst hj; simpa [Addr.add] using h.c2
  | 3, hj => simp at hj; subst hj; simpa [Addr.add] using h.c3
  | j + 4, hj => simp at hj

theorem copy0 {n g : Nat} {a0 a1 a2 a3 s0 s1 s2 s3 x0 x1 x2 x3 x4 x5 x6 x7 x8 x9 x10 x11 : Int} {W : World} (h : PS n a0 a1 a2 a3 x0 x1 x2 x3 x4 x5 x6 x7 x8 x9 x10 x11 W) (k : Cw g s0 s1 s2 s3 W) (ty : TypeId) :
    (Builtin.copy_ #[66, 66] ty #[.slice (some ⟨n + 1 + 1 + 1, 0, none⟩) 12 12, .slice (some ⟨g, 0, none⟩) 4 4]).run Try.prog W = .ok (goInt 4) (W.setCells (n + 1 + 1 + 1) 0 [.int .u64 s0, .int .u64 s1, .int .u64 s2, .int .u64 s3]) := by
  refine run_copy_cells W 66 66 ty 22 (n + 1 + 1 + 1) 0 12 12 ⟨g, 0, none⟩ 4 4 [.int .u64 s0, .int .u64 s1, .int .u64 s2, .int .u64 s3] Try.underlying66 (by kernel_rfl) rfl (four_src k) ?_ (fun j _ => h.pf _) ?_
  · intro j hj
    match j, hj with
    | 0, _ => simp [h.p0]
    | 1, _ => simp [h.p1]
    | 2, _ => simp [h.p2]
    | 3, _ => simp [h.p3]
  · intro v hv
    simp at hv
    rcases hv with rfl | rfl | rfl | rfl <;> rfl

theorem copy1 {n g : Nat} {a0 a1 a2 a3 s0 s1 s2 s3 x0 x1 x2 x3 x4 x5 x6 x7 x8 x9 x10 x11 : Int} {W : World} (h : PS n a0 a1 a2 a3 x0 x1 x2 x3 x4 x5 x6 x7 x8 x9 x10 x11 W) (k : Cw g s0 s1 s2 s3 W) (ty : TypeId) :
    (Builtin.copy_ #[66, 66] ty #[.slice (some ⟨n + 1 + 1 + 1, 1, none⟩) 11 11, .slice (some ⟨g, 0, none⟩) 4 4]).run Try.prog W = .ok (goInt 4) (W.setCells (n + 1 + 1 + 1) 1 [.int .u64 s0, .int .u64 s1, .int .u64 s2, .int .u64 s3]) := by
  refine run_copy_cells W 66 66 ty 22 (n + 1 + 1 + 1) 1 11 11 ⟨g, 0, none⟩ 4 4 [.int .u64 s0, .int .u64 s1, .int .u64 s2, .int .u64 s3] Try.underlying66 (by kernel_rfl) rfl (four_src k) ?_ (fun j _ => h.pf _) ?_
  · intro j hj
    match j, hj with
    | 0, _ => simp [h.p1]
    | 1, _ => simp [h.p2]
    | 2, _ => simp [h.p3]
    | 3, _ => simp [h.p4]
  · intro v hv
    simp at hv
    rcases hv with rfl | rfl | rfl | rfl <;> rfl

theorem copy2 {n g : Nat} {a0 a1 a2 a3 s0 s1 s2 s3 x0 x1 x2 x3 x4 x5 x6 x7 x8 x9 x10 x11 : Int} {W : World} (h : PS n a0 a1 a2 a3 x0 x1 x2 x3 x4 x5 x6 x7 x8 x9 x10 x11 W) (k : Cw g s0 s1 s2 s3 W) (ty : TypeId) :
    (Builtin.copy_ #[66, 66] ty #[.slice (some ⟨n + 1 + 1 + 1, 2, none⟩) 10 10, .slice (some ⟨g, 0, none⟩) 4 4]).run Try.prog W = .ok (goInt 4) (W.setCells (n + 1 + 1 + 1) 2 [.int .u64 s0, .int .u64 s1, .int .u64 s2, .int .u64 s3]) := by
  refine run_copy_cells W 66 66 ty 22 (n + 1 + 1 + 1) 2 10 10 ⟨g, 0, none⟩ 4 4 [.int .u64 s0, .int .u64 s1, .int .u64 s2, .int .u64 s3] Try.underlying66 (by kernel_rfl) rfl (four_src k) ?_ (fun j _ => h.pf _) ?_
  · intro j hj
    match j, hj with
    | 0, _ => simp [h.p2]
    | 1, _ => simp [h.p3]
    | 2, _ => simp [h.p4]
    | 3, _ => simp [h.p5]
  · intro v hv
    simp at hv
    rcases hv with rfl | rfl | rfl | rfl <;> rfl

theorem copy3 {n g : Nat} {a0 a1 a2 a3 s0 s1 s2 s3 x0 x1 x2 x3 x4 x5 x6 x7 x8 x9 x10 x11 : Int} {W : World} (h : PS n a0 a1 a2 a3 x0 x1 x2 x3 x4 x5 x6 x7 x8 x9 x10 x11 W) (k : Cw g s0 s1 s2 s3 W) (ty : TypeId) :
    (Builtin.copy_ #[66, 66] ty #[.slice (some ⟨n + 1 + 1 + 1, 3, none⟩) 9 9, .slice (some ⟨g, 0, none⟩) 4 4]).run Try.prog W = .ok (goInt 4) (W.setCells (n + 1 + 1 + 1) 3 [.int .u64 s0, .int .u64 s1, .int .u64 s2, .int .u64 s3]) := by
  refine run_copy_cells W 66 66 ty 22 (n + 1 + 1 + 1) 3 9 9 ⟨g, 0, none⟩ 4 4 [.int .u64 s0, .int .u64 s1, .int .u64 s2, .int .u64 s3] Try.underlying66 (by kernel_rfl) rfl (four_src k) ?_ (fun j _ => h.pf _) ?_
  · intro j hj
    match j, hj with
    | 0, _ => simp [h.p3]
    | 1, _ => simp [h.p4]
    | 2, _ => simp [h.p5]
    | 3, _ => simp [h.p6]
  · intro v hv
    simp at hv
    rcases hv with rfl | rfl | rfl | rfl <;> rfl

/-- A word that may be written lies in block n. -/
structure Rw (n : Nat) (a0 a1 a2 a3 : Int) (W : World) : Prop where
  w : Cw n a0 a1 a2 a3 W
  f : ∀ o, W.frozen? ⟨n, o, none⟩ = false
theorem Rw.below {n : Nat} {a0 a1 a2 a3 : Int} {W W' : World} (h : Rw n a0 a1 a2 a3 W) (hb : Below W.heap.size W W') : Rw n a0 a1 a2 a3 W' := ⟨h.w.below hb, fun o => (hb.frozen (p := ⟨n, o, none⟩) h.w.z).trans (h.f o)⟩
theorem Rw.new (W : World) (a0 a1 a2 a3 : Int) (t : TypeId) : Rw W.heap.size a0 a1 a2 a3 (W.alloc (.cells #[.int .u64 a0, .int .u64 a1, .int .u64 a2, .int .u64 a3] t)) := ⟨Cw.new W a0 a1 a2 a3 t, fun o => by simp [go_sem]⟩
theorem Cw.over {n : Nat} {a0 a1 a2 a3 b0 b1 b2 b3 : Int} {W : World} (h : Cw n a0 a1 a2 a3 W) : Cw n b0 b1 b2 b3 ((((W.setCell ⟨n, 0, none⟩ (.int .u64 b0)).setCell ⟨n, 1, none⟩ (.int .u64 b1)).setCell ⟨n, 2, none⟩ (.int .u64 b2)).setCell ⟨n, 3, none⟩ (.int .u64 b3)) := by
  obtain ⟨z, h0, h1, h2, h3⟩ := h
  exact ⟨by simp [go_sem, *], by simp [go_sem, *], by simp [go_sem, *], by simp [go_sem, *], by simp [go_sem, *]⟩
theorem PS.over {n g : Nat} {a0 a1 a2 a3 b0 b1 b2 b3 x0 x1 x2 x3 x4 x5 x6 x7 x8 x9 x10 x11 : Int} {W : World} (h : PS n a0 a1 a2 a3 x0 x1 x2 x3 x4 x5 x6 x7 x8 x9 x10 x11 W) (hg : n + 1 + 1 + 1 < g) : PS n a0 a1 a2 a3 x0 x1 x2 x3 x4 x5 x6 x7 x8 x9 x10 x11 ((((W.setCell ⟨g, 0, none⟩ (.int .u64 b0)).setCell ⟨g, 1, none⟩ (.int .u64 b1)).setCell ⟨g, 2, none⟩ (.int .u64 b2)).setCell ⟨g, 3, none⟩ (.int .u64 b3)) := by
  have hb : Below (n + 1 + 1 + 1 + 1) W ((((W.setCell ⟨g, 0, none⟩ (.int .u64 b0)).setCell ⟨g, 1, none⟩ (.int .u64 b1)).setCell ⟨g, 2, none⟩ (.int .u64 b2)).setCell ⟨g, 3, none⟩ (.int .u64 b3)) := ((((Below.refl _ W).setCell (p := ⟨g, 0, none⟩) hg _).setCell (p := ⟨g, 1, none⟩) hg _).setCell (p := ⟨g, 2, none⟩) hg _).setCell (p := ⟨g, 3, none⟩) hg _
  have z := h.z
  exact ⟨h.A.keep (hb.mono (by omega)), Nat.lt_of_lt_of_le h.z hb.size, (hb.cell (p := ⟨n + 1 + 1 + 1, 0, none⟩) (by dsimp only; omega)).trans h.p0, (hb.cell (p := ⟨n + 1 + 1 + 1, 1, none⟩) (by dsimp only; omega)).trans h.p1, (hb.cell (p := ⟨n + 1 + 1 + 1, 2, none⟩) (by dsimp only; omega)).trans h.p2, (hb.cell (p := ⟨n + 1 + 1 + 1, 3, none⟩) (by dsimp only; omega)).trans h.p3, (hb.cell (p := ⟨n + 1 + 1 + 1, 4, none⟩) (by dsimp only; omega)).trans h.p4, (hb.cell (p := ⟨n + 1 + 1 + 1, 5, none⟩) (by dsimp only; omega)).trans h.p5, (hb.cell (p := ⟨n + 1 + 1 + 1, 6, none⟩) (by dsimp only; omega)).trans h.p6, (hb.cell (p := ⟨n + 1 + 1 + 1, 7, none⟩) (by dsimp only; omega)).trans h.p7, (hb.cell (p := ⟨n + 1 + 1 + 1, 8, none⟩) (by dsimp only; omega)).trans h.p8, (hb.cell (p := ⟨n + 1 + 1 + 1, 9, none⟩) (by dsimp only; omega)).trans h.p9, (hb.cell (p := ⟨n + 1 + 1 + 1, 10, none⟩) (by dsimp only; omega)).trans h.p10, (hb.cell (p := ⟨n + 1 + 1 + 1, 11, none⟩) (by dsimp only; omega)).trans h.p11, fun o => (hb.frozen (p := ⟨n + 1 + 1 + 1, o, none⟩) (by dsimp only; omega)).trans (h.pf o), (hb.cell (p := ⟨n + 1 + 1, 0, none⟩) (by dsimp only; omega)).trans h.q0, (hb.cell (p := ⟨n + 1 + 1, 1, none⟩) (by dsimp only; omega)).trans h.q1, (hb.cell (p := ⟨n + 1 + 1, 2, none⟩) (by dsimp only; omega)).trans h.q2, (hb.cell (p := ⟨n + 1 + 1, 3, none⟩) (by dsimp only; omega)).trans h.q3, (hb.cell (p := ⟨n + 1 + 1, 4, none⟩) (by dsimp only; omega)).trans h.q4, (hb.cell (p := ⟨n + 1 + 1, 5, none⟩) (by dsimp only; omega)).trans h.q5, (hb.cell (p := ⟨n + 1 + 1, 6, none⟩) (by dsimp only; omega)).trans h.q6, (hb.cell (p := ⟨n + 1 + 1, 7, none⟩) (by dsimp only; omega)).trans h.q7, (hb.cell (p := ⟨n + 1 + 1, 8, none⟩) (by dsimp only; omega)).trans h.q8, (hb.cell (p := ⟨n + 1 + 1, 9, none⟩) (by dsimp only; omega)).trans h.q9, (hb.cell (p := ⟨n + 1 + 1, 10, none⟩) (by dsimp only; omega)).trans h.q10, (hb.cell (p := ⟨n + 1 + 1, 11, none⟩) (by dsimp only; omega)).trans h.q11, fun o => (hb.frozen (p := ⟨n + 1 + 1, o, none⟩) (by dsimp only; omega)).trans (h.qf o)⟩

/-- Four cells in a row of block p. -/
abbrev S4 (p k0 k1 k2 k3 : Nat) (y0 y1 y2 y3 : Int) (W : World) : Prop := p < W.heap.size ∧ W.cell? ⟨p, k0, none⟩ = some (.int .u64 y0) ∧ W.cell? ⟨p, k1, none⟩ = some (.int .u64 y1) ∧ W.cell? ⟨p, k2, none⟩ = some (.int .u64 y2) ∧ W.cell? ⟨p, k3, none⟩ = some (.int .u64 y3)
theorem S4.keep {p k0 k1 k2 k3 : Nat} {y0 y1 y2 y3 : Int} {W W' : World} (h : S4 p k0 k1 k2 k3 y0 y1 y2 y3 W) (hb : Below (p + 1) W W') : S4 p k0 k1 k2 k3 y0 y1 y2 y3 W' := by
  obtain ⟨z, h0, h1, h2, h3⟩ := h
  exact ⟨Nat.lt_of_lt_of_le z hb.size, (hb.cell (p := ⟨p, k0, none⟩) (Nat.lt_succ_self p)).trans h0, (hb.cell (p := ⟨p, k1, none⟩) (Nat.lt_succ_self p)).trans h1, (hb.cell (p := ⟨p, k2, none⟩) (Nat.lt_succ_self p)).trans h2, (hb.cell (p := ⟨p, k3, none⟩) (Nat.lt_succ_self p)).trans h3⟩
theorem S4.below {p k0 k1 k2 k3 : Nat} {y0 y1 y2 y3 : Int} {W W' : World} (h : S4 p k0 k1 k2 k3 y0 y1 y2 y3 W) (hb : Below W.heap.size W W') : S4 p k0 k1 k2 k3 y0 y1 y2 y3 W' := h.keep (hb.mono h.1)
theorem S4.drew {p k0 k1 k2 k3 : Nat} {y0 y1 y2 y3 : Int} {W : World} (h : S4 p k0 k1 k2 k3 y0 y1 y2 y3 W) : S4 p k0 k1 k2 k3 y0 y1 y2 y3 W.drew := h
theorem S4.setCell {p k0 k1 k2 k3 : Nat} {y0 y1 y2 y3 : Int} {W : World} (h : S4 p k0 k1 k2 k3 y0 y1 y2 y3 W) (c : Addr) (hc : p + 1 ≤ c.block) (v : Value) : S4 p k0 k1 k2 k3 y0 y1 y2 y3 (W.setCell c v) := h.keep ((Below.refl _ W).setCell hc v)

/-- One round in plain numbers: what is written, and what is carried above it. -/
theorem round_val (u c A B R Wd Sd : Int) (h1 : R + 115792089237316195423570985008687907853269984665640564039457584007913129639936 * u = A * B) (h2 : Sd + 115792089237316195423570985008687907853269984665640564039457584007913129639936 * c = R + Wd) (hA : 0 ≤ A ∧ A < 115792089237316195423570985008687907853269984665640564039457584007913129639936) (hB : Pt B) (hS : 0 ≤ Sd) (hW : Wd < 115792089237316195423570985008687907853269984665640564039457584007913129639936) (hu : 0 ≤ u) (hc : 0 ≤ c) :
    ∃ v, IntKind.u64.wrap (u + c) = v ∧ Hid (Pt v ∧ Sd + 115792089237316195423570985008687907853269984665640564039457584007913129639936 * v = A * B + Wd) := by
  have g : A * B ≤ 115792089237316195423570985008687907853269984665640564039457584007913129639935 * 18446744073709551615 := Int.mul_le_mul (by omega) (by have := hB.2; omega) hB.1 (by decide)
  refine ⟨u + c, ?_, ⟨by omega, by omega⟩, by omega⟩
  rw [IntKind.wrap_u64]; omega

theorem prod_val (A b0 b1 b2 b3 s00 s01 s02 s03 s10 s11 s12 s13 s20 s21 s22 s23 s30 s31 s32 s33 v0 v1 v2 v3 : Int)
    (h0 : val s00 s01 s02 s03 + 115792089237316195423570985008687907853269984665640564039457584007913129639936 * v0 = A * b0 + val 0 0 0 0) (h1 : val s10 s11 s12 s13 + 115792089237316195423570985008687907853269984665640564039457584007913129639936 * v1 = A * b1 + val s01 s02 s03 v0)
    (h2 : val s20 s21 s22 s23 + 115792089237316195423570985008687907853269984665640564039457584007913129639936 * v2 = A * b2 + val s11 s12 s13 v1) (h3 : val s30 s31 s32 s33 + 115792089237316195423570985008687907853269984665640564039457584007913129639936 * v3 = A * b3 + val s21 s22 s23 v2) :
    vlong s00 s10 s20 s30 s31 s32 s33 v3 0 0 0 0 = A * val b0 b1 b2 b3 := by
  have e : A * val b0 b1 b2 b3 = A * b0 + 18446744073709551616 * (A * b1) + 340282366920938463463374607431768211456 * (A * b2) + 6277101735386680763835789423207666416102355444464034512896 * (A * b3) := by
    unfold val
    simp only [Int.mul_add, Int.mul_left_comm A]
  rw [e]
  generalize A * b0 = m0 at *
  generalize A * b1 = m1 at *
  generalize A * b2 = m2 at *
  generalize A * b3 = m3 at *
  unfold vlong
  unfold val at *
  omega

set_option maxHeartbeats 4000000 in
theorem product_any (a0 a1 a2 a3 b0 b1 b2 b3 : Int) (ha : Ws a0 a1 a2 a3) (hb : Ws b0 b1 b2 b3) (w : World) :
    Calls Try.prog 55 #[.agg #[.int .u64 a0, .int .u64 a1, .int .u64 a2, .int .u64 a3], .agg #[.int .u64 b0, .int .u64 b1, .int .u64 b2, .int .u64 b3]] w fun e w' =>
      ∃ t0 t1 t2 t3 t4 t5 t6 t7 t8 t9 t10 t11 : Int, e = .returned (.agg #[.int .u64 t0, .int .u64 t1, .int .u64 t2, .int .u64 t3, .int .u64 t4, .int .u64 t5, .int .u64 t6, .int .u64 t7, .int .u64 t8, .int .u64 t9, .int .u64 t10, .int .u64 t11]) ∧ Wl t0 t1 t2 t3 t4 t5 t6 t7 t8 t9 t10 t11 ∧ Hid (vlong t0 t1 t2 t3 t4 t5 t6 t7 t8 t9 t10 t11 = val a0 a1 a2 a3 * val b0 b1 b2 b3) ∧ Below w.heap.size w w' := by
  have ho : Pt 0 := ⟨by decide, by decide⟩
  have i0 := fun w => (index4 b0 b1 b2 b3 w).1
  have i1 := fun w => (index4 b0 b1 b2 b3 w).2.1
  have i2 := fun w => (index4 b0 b1 b2 b3 w).2.2.1
  have i3 := fun w => (index4 b0 b1 b2 b3 w).2.2.2
  have hA := val_bd _ _ _ _ ha
  go_enter Try.func55, Try.ntmps55
  go_wp2
  refine wp_loop_rounds 5 ?_
  rw [rounds_succ]; go_wp2_with fail
  refine (times_any a0 a1 a2 a3 b0 ha hb.1 _).mono ?_
  rintro e w1 ⟨r0, r1, r2, r3, u, rfl, hr, hru, k1⟩
  have P0 : PS w.heap.size a0 a1 a2 a3 0 0 0 0 0 0 0 0 0 0 0 0 w1 := PS.below (by exact ⟨⟨by simp <;> omega, by simp [go_sem], by simp [go_sem], by simp [go_sem], by simp [go_sem]⟩, by simp, by simp [go_sem], by simp [go_sem], by simp [go_sem], by simp [go_sem], by simp [go_sem], by simp [go_sem], by simp [go_sem], by simp [go_sem], by simp [go_sem], by simp [go_sem], by simp [go_sem], by simp [go_sem], fun o => by simp [go_sem], by simp [go_sem], by simp [go_sem], by simp [go_sem], by simp [go_sem], by simp [go_sem], by simp [go_sem], by simp [go_sem], by simp [go_sem], by simp [go_sem], by simp [go_sem], by simp [go_sem], by simp [go_sem], fun o => by simp [go_sem]⟩) k1
  have E0 := belowStep (n := w.heap.size) (w := w) (by go_grown) (by (try simp) <;> omega) k1
  clear k1
  go_wp2
  refine wpOf (fun W => Below w.heap.size w W ∧ PS w.heap.size a0 a1 a2 a3 0 0 0 0 0 0 0 0 0 0 0 0 W ∧ Rw w1.heap.size r0 r1 r2 r3 W ∧ w.heap.size + 1 + 1 + 1 < w1.heap.size) ⟨?_, ?_, ?_, ?_⟩ ?_
  · exact E0.alloc E0.size _
  · exact P0.below ((Below.refl _ _).alloc (Nat.le_refl _) _)
  · exact Rw.new _ _ _ _ _ _
  · exact P0.z
  rintro V ⟨E1, P1, R1, zg⟩
  clear P0 E0
  have hwin : Ws 0 0 0 0 := ⟨ho, ho, ho, ho⟩
  have g1 : S4 (w.heap.size + 1 + 1 + 1) 0 1 2 3 0 0 0 0 V := ⟨P1.z, P1.p0, P1.p1, P1.p2, P1.p3⟩
  have g1d := S4.drew g1
  obtain ⟨⟨rz, rc0, rc1, rc2, rc3⟩, rf⟩ := id R1
  have wa1 : IntKind.i64.wrap (0 + 1) = 1 := by decide
  have wb1 : IntKind.i64.wrap 1 = 1 := by decide
  have wa2 : IntKind.i64.wrap (0 + 2) = 2 := by decide
  have wb2 : IntKind.i64.wrap 2 = 2 := by decide
  have wa3 : IntKind.i64.wrap (0 + 3) = 3 := by decide
  have wb3 : IntKind.i64.wrap 3 = 3 := by decide
  have wa4 : IntKind.i64.wrap (0 + 4) = 4 := by decide
  have wb4 : IntKind.i64.wrap 4 = 4 := by decide
  refine wp_region_held_drew (S := (fun w' => w.heap.size + 1 + 1 + 1 < w'.heap.size ∧ w'.cell? ⟨w.heap.size + 1 + 1 + 1, 0, none⟩ = some (.int .u64 0) ∧ w'.cell? ⟨w.heap.size + 1 + 1 + 1, 1, none⟩ = some (.int .u64 0) ∧ w'.cell? ⟨w.heap.size + 1 + 1 + 1, 2, none⟩ = some (.int .u64 0) ∧ w'.cell? ⟨w.heap.size + 1 + 1 + 1, 3, none⟩ = some (.int .u64 0))) (by kernel_rfl) g1d (fun hHeld => ?_)
  refine wpAnyH_take (i := 1) (v := ?_) (by simp only [List.getElem?_toArray, List.getElem?_cons_succ, List.getElem?_cons_zero]; rfl) (by kernel_rfl) (by kernel_rfl) (by kernel_rfl) (by intro _ _ _ h; exact h) (Or.inl ⟨by rfl, ?_⟩) (by assumption) ?_
  rotate_left
  · (intro w' hSw; (try dsimp only at hSw); go_simp; try with_reducible rfl)
  (try simp only [Act.put, List.setIfInBounds_toArray, List.set_cons_zero, List.set_cons_succ])
  refine wpAnyH_take (i := 2) (v := ?_) (by simp only [List.getElem?_toArray, List.getElem?_cons_succ, List.getElem?_cons_zero]; rfl) (by kernel_rfl) (by kernel_rfl) (by kernel_rfl) (by intro _ _ _ h; exact h) (Or.inl ⟨by rfl, ?_⟩) (by assumption) ?_
  rotate_left
  · (intro w' hSw; (try dsimp only at hSw); go_simp; try with_reducible rfl)
  (try simp only [Act.put, List.setIfInBounds_toArray, List.set_cons_zero, List.set_cons_succ])
  refine wpAnyH_take (i := 3) (v := ?_) (by simp only [List.getElem?_toArray, List.getElem?_cons_succ, List.getElem?_cons_zero]; rfl) (by kernel_rfl) (by kernel_rfl) (by kernel_rfl) (by intro _ _ _ h; exact h) (Or.inl ⟨by rfl, ?_⟩) (by assumption) ?_
  rotate_left
  · (intro w' hSw; (try dsimp only at hSw); go_simp; try with_reducible rfl)
  (try simp only [Act.put, List.setIfInBounds_toArray, List.set_cons_zero, List.set_cons_succ])
  refine wpAnyH_take (i := 4) (v := ?_) (by simp only [List.getElem?_toArray, List.getElem?_cons_succ, List.getElem?_cons_zero]; rfl) (by kernel_rfl) (by kernel_rfl) (by kernel_rfl) (by intro _ _ _ h; exact h) (Or.inl ⟨by rfl, ?_⟩) (by assumption) ?_
  rotate_left
  · (intro w' hSw; (try dsimp only at hSw); go_simp; try with_reducible rfl)
  (try simp only [Act.put, List.setIfInBounds_toArray, List.set_cons_zero, List.set_cons_succ])
  refine wpAnyH_take (i := 5) (v := ?_) (by simp only [List.getElem?_toArray, List.getElem?_cons_succ, List.getElem?_cons_zero]; rfl) (by kernel_rfl) (by kernel_rfl) (by kernel_rfl) (by intro _ _ _ h; exact h) (Or.inl ⟨by rfl, ?_⟩) (by assumption) ?_
  rotate_left
  · (intro w' hSw; (try dsimp only at hSw); go_simp; try with_reducible rfl)
  (try simp only [Act.put, List.setIfInBounds_toArray, List.set_cons_zero, List.set_cons_succ])
  refine wpAnyH_take (i := 6) (v := ?_) (by simp only [List.getElem?_toArray, List.getElem?_cons_succ, List.getElem?_cons_zero]; rfl) (by kernel_rfl) (by kernel_rfl) (by kernel_rfl) (by intro _ _ _ h; exact h) (Or.inl ⟨by rfl, ?_⟩) (by assumption) ?_
  rotate_left
  · (intro w' hSw; (try dsimp only at hSw); go_simp; try with_reducible rfl)
  (try simp only [Act.put, List.setIfInBounds_toArray, List.set_cons_zero, List.set_cons_succ])
  refine wpAnyH_take (i := 7) (v := ?_) (by simp only [List.getElem?_toArray, List.getElem?_cons_succ, List.getElem?_cons_zero]; rfl) (by kernel_rfl) (by kernel_rfl) (by kernel_rfl) (by intro _ _ _ h; exact h) (Or.inl ⟨by rfl, ?_⟩) (by assumption) ?_
  rotate_left
  · (intro w' hSw; (try dsimp only at hSw); go_simp; try with_reducible rfl)
  (try simp only [Act.put, List.setIfInBounds_toArray, List.set_cons_zero, List.set_cons_succ])
  refine wpAnyH_take (i := 8) (v := ?_) (by simp only [List.getElem?_toArray, List.getElem?_cons_succ, List.getElem?_cons_zero]; rfl) (by kernel_rfl) (by kernel_rfl) (by kernel_rfl) (by intro _ _ _ h; exact h) (Or.inl ⟨by rfl, ?_⟩) (by assumption) ?_
  rotate_left
  · (intro w' hSw; (try dsimp only at hSw); go_simp; try with_reducible rfl)
  (try simp only [Act.put, List.setIfInBounds_toArray, List.set_cons_zero, List.set_cons_succ])
  refine wpAnyH_take (i := 9) (v := ?_) (by simp only [List.getElem?_toArray, List.getElem?_cons_succ, List.getElem?_cons_zero]; rfl) (by kernel_rfl) (by kernel_rfl) (by kernel_rfl) (by intro _ _ _ h; exact h) (Or.inl ⟨by rfl, ?_⟩) (by assumption) ?_
  rotate_left
  · (intro w' hSw; (try dsimp only at hSw); go_simp; try with_reducible rfl)
  (try simp only [Act.put, List.setIfInBounds_toArray, List.set_cons_zero, List.set_cons_succ])
  refine wpAnyH_take (i := 10) (v := ?_) (by simp only [List.getElem?_toArray, List.getElem?_cons_succ, List.getElem?_cons_zero]; rfl) (by kernel_rfl) (by kernel_rfl) (by kernel_rfl) (by intro _ _ _ h; exact h) (Or.inl ⟨by rfl, ?_⟩) (by assumption) ?_
  rotate_left
  · (intro w' hSw; (try dsimp only at hSw); go_simp; try with_reducible rfl)
  (try simp only [Act.put, List.setIfInBounds_toArray, List.set_cons_zero, List.set_cons_succ])
  refine wpAnyH_take (i := 11) (v := ?_) (by simp only [List.getElem?_toArray, List.getElem?_cons_succ, List.getElem?_cons_zero]; rfl) (by kernel_rfl) (by kernel_rfl) (by kernel_rfl) (by intro _ _ _ h; exact h) (Or.inl ⟨by rfl, ?_⟩) (by assumption) ?_
  rotate_left
  · (intro w' hSw; (try dsimp only at hSw); go_simp; try with_reducible rfl)
  (try simp only [Act.put, List.setIfInBounds_toArray, List.set_cons_zero, List.set_cons_succ])
  refine wpAnyH_take (i := 12) (v := ?_) (by simp only [List.getElem?_toArray, List.getElem?_cons_succ, List.getElem?_cons_zero]; rfl) (by kernel_rfl) (by kernel_rfl) (by kernel_rfl) (by intro _ _ _ h; exact h) (Or.inl ⟨by rfl, ?_⟩) (by assumption) ?_
  rotate_left
  · (intro w' hSw; (try dsimp only at hSw); go_simp; try with_reducible rfl)
  (try simp only [Act.put, List.setIfInBounds_toArray, List.set_cons_zero, List.set_cons_succ])
  refine wpAnyH_take (i := 13) (v := ?_) (by simp only [List.getElem?_toArray, List.getElem?_cons_succ, List.getElem?_cons_zero]; rfl) (by kernel_rfl) (by kernel_rfl) (by kernel_rfl) (by intro _ _ _ h; exact h) (Or.inl ⟨by rfl, ?_⟩) (by assumption) ?_
  rotate_left
  · (intro w' hSw; (try dsimp only at hSw); go_simp; try with_reducible rfl)
  (try simp only [Act.put, List.setIfInBounds_toArray, List.set_cons_zero, List.set_cons_succ])
  refine wpAnyH_take (i := 14) (v := ?_) (by simp only [List.getElem?_toArray, List.getElem?_cons_succ, List.getElem?_cons_zero]; rfl) (by kernel_rfl) (by kernel_rfl) (by kernel_rfl) (by intro _ _ _ h; exact h) (Or.inl ⟨by rfl, ?_⟩) (by assumption) ?_
  rotate_left
  · (intro w' hSw; (try dsimp only at hSw); go_simp; try with_reducible rfl)
  (try simp only [Act.put, List.setIfInBounds_toArray, List.set_cons_zero, List.set_cons_succ])
  refine wpAnyH_take (i := 15) (v := ?_) (by simp only [List.getElem?_toArray, List.getElem?_cons_succ, List.getElem?_cons_zero]; rfl) (by kernel_rfl) (by kernel_rfl) (by kernel_rfl) (by intro _ _ _ h; exact h) (Or.inl ⟨by rfl, ?_⟩) (by assumption) ?_
  rotate_left
  · (intro w' hSw; (try dsimp only at hSw); go_simp; try with_reducible rfl)
  (try simp only [Act.put, List.setIfInBounds_toArray, List.set_cons_zero, List.set_cons_succ])
  refine wpAnyH_take (i := 16) (v := ?_) (by simp only [List.getElem?_toArray, List.getElem?_cons_succ, List.getElem?_cons_zero]; rfl) (by kernel_rfl) (by kernel_rfl) (by kernel_rfl) (by intro _ _ _ h; exact h) (Or.inl ⟨by rfl, ?_⟩) (by assumption) ?_
  rotate_left
  · (intro w' hSw; (try dsimp only at hSw); go_simp; try with_reducible rfl)
  (try simp only [Act.put, List.setIfInBounds_toArray, List.set_cons_zero, List.set_cons_succ])
  refine wpAnyH_ready (rs := [0]) (by kernel_rfl) (by simp) ?_
  refine AllReadyH.cons (by simp only [List.getElem?_toArray, List.getElem?_cons_zero]; rfl) (fun K hK => ?_) AllReadyH.nil
  go_simp
  refine hK.out _ _ ?_ (fun hHeld => ?_)
  · exact g1d
  clear hK K
  (try simp only [Act.put, List.setIfInBounds_toArray, List.set_cons_zero, List.set_cons_succ])
  refine wpAnyH_ready (rs := [17]) (by kernel_rfl) (by simp) ?_
  refine AllReadyH.cons (by simp only [List.getElem?_toArray, List.getElem?_cons_succ, List.getElem?_cons_zero]; rfl) (fun K hK => ?_) AllReadyH.nil
  go_simp
  refine (plus_any r0 r1 r2 r3 0 0 0 0 hr hwin _).mono ?_
  rintro e v ⟨s00, s01, s02, s03, cy, rfl, hs, hsc, k2⟩
  have g2 := S4.below g1d k2
  have R2 := Rw.below (W := V.drew) ⟨⟨rz, rc0, rc1, rc2, rc3⟩, rf⟩ k2
  have P2 := PS.below (PS.drew P1) k2
  have E2 := belowStep (Below.drew E1) (Below.drew E1).size k2
  obtain ⟨⟨sz, sc0, sc1, sc2, sc3⟩, sf⟩ := id R2
  go_wp2_with fail
  refine hK.out _ _ ?_ (fun hHeld => ?_)
  · exact g2
  clear hK K
  (try simp only [Act.put, List.setIfInBounds_toArray, List.set_cons_zero, List.set_cons_succ])
  refine wpAnyH_take (i := 18) (v := ?_) (by simp only [List.getElem?_toArray, List.getElem?_cons_succ, List.getElem?_cons_zero]; rfl) (by kernel_rfl) (by kernel_rfl) (by kernel_rfl) (by intro _ _ _ h; exact h) (Or.inl ⟨by rfl, ?_⟩) (by assumption) ?_
  rotate_left
  · (intro w' hSw; (try dsimp only at hSw); go_simp; try with_reducible rfl)
  (try simp only [Act.put, List.setIfInBounds_toArray, List.set_cons_zero, List.set_cons_succ])
  refine wpAnyH_take (i := 19) (v := ?_) (by simp only [List.getElem?_toArray, List.getElem?_cons_succ, List.getElem?_cons_zero]; rfl) (by kernel_rfl) (by kernel_rfl) (by kernel_rfl) (by intro _ _ _ h; exact h) (Or.inl ⟨by rfl, ?_⟩) (by assumption) ?_
  rotate_left
  · (intro w' hSw; (try dsimp only at hSw); go_simp; try with_reducible rfl)
  (try simp only [Act.put, List.setIfInBounds_toArray, List.set_cons_zero, List.set_cons_succ])
  refine wpAnyH_take (i := 20) (v := ?_) (by simp only [List.getElem?_toArray, List.getElem?_cons_succ, List.getElem?_cons_zero]; rfl) (by kernel_rfl) (by kernel_rfl) (by kernel_rfl) (by intro _ _ _ h; exact h) (Or.inl ⟨by rfl, ?_⟩) (by assumption) ?_
  rotate_left
  · (intro w' hSw; (try dsimp only at hSw); go_simp; try with_reducible rfl)
  (try simp only [Act.put, List.setIfInBounds_toArray, List.set_cons_zero, List.set_cons_succ])
  refine wpAnyH_ready (rs := [21]) (by kernel_rfl) (by simp) ?_
  refine AllReadyH.cons (by simp only [List.getElem?_toArray, List.getElem?_cons_succ, List.getElem?_cons_zero]; rfl) (fun K hK => ?_) AllReadyH.nil
  go_simp
  refine hK.out _ _ ?_ (fun hHeld => ?_)
  · repeat' (first | with_reducible exact g2 | with_reducible refine S4.setCell (p := w.heap.size + 1 + 1 + 1) (k0 := 0) (k1 := 1) (k2 := 2) (k3 := 3) (y0 := 0) (y1 := 0) (y2 := 0) (y3 := 0) ?_ _ ?_ _ | (dsimp only; omega))
  clear hK K
  (try simp only [Act.put, List.setIfInBounds_toArray, List.set_cons_zero, List.set_cons_succ])
  refine wpAnyH_take (i := 22) (v := ?_) (by simp only [List.getElem?_toArray, List.getElem?_cons_succ, List.getElem?_cons_zero]; rfl) (by kernel_rfl) (by kernel_rfl) (by kernel_rfl) (by intro _ _ _ h; exact h) (Or.inl ⟨by rfl, ?_⟩) (by assumption) ?_
  rotate_left
  · (intro w' hSw; (try dsimp only at hSw); go_simp; try with_reducible rfl)
  (try simp only [Act.put, List.setIfInBounds_toArray, List.set_cons_zero, List.set_cons_succ])
  refine wpAnyH_done (by kernel_rfl) ?_ _
  clear hHeld
  go_wp2
  refine wpOf (fun W => Below w.heap.size w W ∧ PS w.heap.size a0 a1 a2 a3 0 0 0 0 0 0 0 0 0 0 0 0 W ∧ Cw w1.heap.size s00 s01 s02 s03 W) ⟨?_, ?_, ?_⟩ ?_
  · go_grown
  · exact PS.over P2 zg
  · exact Cw.over R2.w
  rintro V2 ⟨E3, P3, R3⟩
  obtain ⟨hp, hpv⟩ := hru.out
  obtain ⟨hcy0, hcy1, hcv⟩ := hsc.out
  obtain ⟨v0, wv, hv0⟩ := round_val u cy (val a0 a1 a2 a3) b0 (val r0 r1 r2 r3) (val 0 0 0 0) (val s00 s01 s02 s03) hpv hcv hA hb.1 (val_bd _ _ _ _ hs).1 (val_bd _ _ _ _ hwin).2 hp.1 hcy0
  clear P1 R1 E1 g1 g1d g2 R2 P2 E2 rz rc0 rc1 rc2 rc3 rf sz sc0 sc1 sc2 sc3 sf k2
  obtain ⟨⟨z0, c0, c1, c2, c3⟩, z, p0, p1, p2, p3, p4, p5, p6, p7, p8, p9, p10, p11, pf, _⟩ := id P3
  have cp := copy0 (PS.drew P3) (Cw.drew R3)
  simp only [World.setCells] at cp
  go_region
  go_wp2
  have Pn := PS.drew (PS.step0 P3 s00 s01 s02 s03 v0)
  have En : Below w.heap.size w _ := Below.drew (((((E3.setCell (p := ⟨w.heap.size + 1 + 1 + 1, 0, none⟩) (by dsimp only; omega) (.int .u64 s00)).setCell (p := ⟨w.heap.size + 1 + 1 + 1, 1, none⟩) (by dsimp only; omega) (.int .u64 s01)).setCell (p := ⟨w.heap.size + 1 + 1 + 1, 2, none⟩) (by dsimp only; omega) (.int .u64 s02)).setCell (p := ⟨w.heap.size + 1 + 1 + 1, 3, none⟩) (by dsimp only; omega) (.int .u64 s03)).setCell (p := ⟨w.heap.size + 1 + 1 + 1, 4, none⟩) (by dsimp only; omega) (.int .u64 v0))
  obtain ⟨Hs00, Hs01, Hs02, Hs03⟩ := hs
  have Hv0 := hv0.out.1
  have G0 : Hid (_ = _) := hv0.out.2
  clear P3 R3 E3 cp wv hv0 hpv hcv hp hcy0 hcy1 hsc hru hr hwin zg z p0 p1 p2 p3 p4 p5 p6 p7 p8 p9 p10 p11 pf
  rw [rounds_succ]; go_wp2_with fail
  refine (times_any a0 a1 a2 a3 b1 ha hb.2.1 _).mono ?_
  rintro e w2 ⟨r0, r1, r2, r3, u, rfl, hr, hru, k1⟩
  have P0 := PS.below Pn k1
  have E0 := belowStep En En.size k1
  clear Pn En z0 c0 c1 c2 c3
  clear k1
  go_wp2
  refine wpOf (fun W => Below w.heap.size w W ∧ PS w.heap.size a0 a1 a2 a3 s00 s01 s02 s03 v0 0 0 0 0 0 0 0 W ∧ Rw w2.heap.size r0 r1 r2 r3 W ∧ w.heap.size + 1 + 1 + 1 < w2.heap.size) ⟨?_, ?_, ?_, ?_⟩ ?_
  · exact E0.alloc E0.size _
  · exact P0.below ((Below.refl _ _).alloc (Nat.le_refl _) _)
  · exact Rw.new _ _ _ _ _ _
  · exact P0.z
  rintro V ⟨E1, P1, R1, zg⟩
  clear P0 E0
  have hwin : Ws s01 s02 s03 v0 := ⟨Hs01, Hs02, Hs03, Hv0⟩
  have g1 : S4 (w.heap.size + 1 + 1 + 1) 1 2 3 4 s01 s02 s03 v0 V := ⟨P1.z, P1.p1, P1.p2, P1.p3, P1.p4⟩
  have g1d := S4.drew g1
  obtain ⟨⟨rz, rc0, rc1, rc2, rc3⟩, rf⟩ := id R1
  have wa1 : IntKind.i64.wrap (1 + 1) = 2 := by decide
  have wb1 : IntKind.i64.wrap 2 = 2 := by decide
  have wa2 : IntKind.i64.wrap (1 + 2) = 3 := by decide
  have wb2 : IntKind.i64.wrap 3 = 3 := by decide
  have wa3 : IntKind.i64.wrap (1 + 3) = 4 := by decide
  have wb3 : IntKind.i64.wrap 4 = 4 := by decide
  have wa4 : IntKind.i64.wrap (1 + 4) = 5 := by decide
  have wb4 : IntKind.i64.wrap 5 = 5 := by decide
  refine wp_region_held_drew (S := (fun w' => w.heap.size + 1 + 1 + 1 < w'.heap.size ∧ w'.cell? ⟨w.heap.size + 1 + 1 + 1, 1, none⟩ = some (.int .u64 s01) ∧ w'.cell? ⟨w.heap.size + 1 + 1 + 1, 2, none⟩ = some (.int .u64 s02) ∧ w'.cell? ⟨w.heap.size + 1 + 1 + 1, 3, none⟩ = some (.int .u64 s03) ∧ w'.cell? ⟨w.heap.size + 1 + 1 + 1, 4, none⟩ = some (.int .u64 v0))) (by kernel_rfl) g1d (fun hHeld => ?_)
  refine wpAnyH_take (i := 1) (v := ?_) (by simp only [List.getElem?_toArray, List.getElem?_cons_succ, List.getElem?_cons_zero]; rfl) (by kernel_rfl) (by kernel_rfl) (by kernel_rfl) (by intro _ _ _ h; exact h) (Or.inl ⟨by rfl, ?_⟩) (by assumption) ?_
  rotate_left
  · (intro w' hSw; (try dsimp only at hSw); go_simp; try with_reducible rfl)
  (try simp only [Act.put, List.setIfInBounds_toArray, List.set_cons_zero, List.set_cons_succ])
  refine wpAnyH_take (i := 2) (v := ?_) (by simp only [List.getElem?_toArray, List.getElem?_cons_succ, List.getElem?_cons_zero]; rfl) (by kernel_rfl) (by kernel_rfl) (by kernel_rfl) (by intro _ _ _ h; exact h) (Or.inl ⟨by rfl, ?_⟩) (by assumption) ?_
  rotate_left
  · (intro w' hSw; (try dsimp only at hSw); go_simp; try with_reducible rfl)
  (try simp only [Act.put, List.setIfInBounds_toArray, List.set_cons_zero, List.set_cons_succ])
  refine wpAnyH_take (i := 3) (v := ?_) (by simp only [List.getElem?_toArray, List.getElem?_cons_succ, List.getElem?_cons_zero]; rfl) (by kernel_rfl) (by kernel_rfl) (by kernel_rfl) (by intro _ _ _ h; exact h) (Or.inl ⟨by rfl, ?_⟩) (by assumption) ?_
  rotate_left
  · (intro w' hSw; (try dsimp only at hSw); go_simp; try with_reducible rfl)
  (try simp only [Act.put, List.setIfInBounds_toArray, List.set_cons_zero, List.set_cons_succ])
  refine wpAnyH_take (i := 4) (v := ?_) (by simp only [List.getElem?_toArray, List.getElem?_cons_succ, List.getElem?_cons_zero]; rfl) (by kernel_rfl) (by kernel_rfl) (by kernel_rfl) (by intro _ _ _ h; exact h) (Or.inl ⟨by rfl, ?_⟩) (by assumption) ?_
  rotate_left
  · (intro w' hSw; (try dsimp only at hSw); go_simp; try with_reducible rfl)
  (try simp only [Act.put, List.setIfInBounds_toArray, List.set_cons_zero, List.set_cons_succ])
  refine wpAnyH_take (i := 5) (v := ?_) (by simp only [List.getElem?_toArray, List.getElem?_cons_succ, List.getElem?_cons_zero]; rfl) (by kernel_rfl) (by kernel_rfl) (by kernel_rfl) (by intro _ _ _ h; exact h) (Or.inl ⟨by rfl, ?_⟩) (by assumption) ?_
  rotate_left
  · (intro w' hSw; (try dsimp only at hSw); go_simp; try with_reducible rfl)
  (try simp only [Act.put, List.setIfInBounds_toArray, List.set_cons_zero, List.set_cons_succ])
  refine wpAnyH_take (i := 6) (v := ?_) (by simp only [List.getElem?_toArray, List.getElem?_cons_succ, List.getElem?_cons_zero]; rfl) (by kernel_rfl) (by kernel_rfl) (by kernel_rfl) (by intro _ _ _ h; exact h) (Or.inl ⟨by rfl, ?_⟩) (by assumption) ?_
  rotate_left
  · (intro w' hSw; (try dsimp only at hSw); go_simp; try with_reducible rfl)
  (try simp only [Act.put, List.setIfInBounds_toArray, List.set_cons_zero, List.set_cons_succ])
  refine wpAnyH_take (i := 7) (v := ?_) (by simp only [List.getElem?_toArray, List.getElem?_cons_succ, List.getElem?_cons_zero]; rfl) (by kernel_rfl) (by kernel_rfl) (by kernel_rfl) (by intro _ _ _ h; exact h) (Or.inl ⟨by rfl, ?_⟩) (by assumption) ?_
  rotate_left
  · (intro w' hSw; (try dsimp only at hSw); go_simp; try with_reducible rfl)
  (try simp only [Act.put, List.setIfInBounds_toArray, List.set_cons_zero, List.set_cons_succ])
  refine wpAnyH_take (i := 8) (v := ?_) (by simp only [List.getElem?_toArray, List.getElem?_cons_succ, List.getElem?_cons_zero]; rfl) (by kernel_rfl) (by kernel_rfl) (by kernel_rfl) (by intro _ _ _ h; exact h) (Or.inl ⟨by rfl, ?_⟩) (by assumption) ?_
  rotate_left
  · (intro w' hSw; (try dsimp only at hSw); go_simp; try with_reducible rfl)
  (try simp only [Act.put, List.setIfInBounds_toArray, List.set_cons_zero, List.set_cons_succ])
  refine wpAnyH_take (i := 9) (v := ?_) (by simp only [List.getElem?_toArray, List.getElem?_cons_succ, List.getElem?_cons_zero]; rfl) (by kernel_rfl) (by kernel_rfl) (by kernel_rfl) (by intro _ _ _ h; exact h) (Or.inl ⟨by rfl, ?_⟩) (by assumption) ?_
  rotate_left
  · (intro w' hSw; (try dsimp only at hSw); go_simp; try with_reducible rfl)
  (try simp only [Act.put, List.setIfInBounds_toArray, List.set_cons_zero, List.set_cons_succ])
  refine wpAnyH_take (i := 10) (v := ?_) (by simp only [List.getElem?_toArray, List.getElem?_cons_succ, List.getElem?_cons_zero]; rfl) (by kernel_rfl) (by kernel_rfl) (by kernel_rfl) (by intro _ _ _ h; exact h) (Or.inl ⟨by rfl, ?_⟩) (by assumption) ?_
  rotate_left
  · (intro w' hSw; (try dsimp only at hSw); go_simp; try with_reducible rfl)
  (try simp only [Act.put, List.setIfInBounds_toArray, List.set_cons_zero, List.set_cons_succ])
  refine wpAnyH_take (i := 11) (v := ?_) (by simp only [List.getElem?_toArray, List.getElem?_cons_succ, List.getElem?_cons_zero]; rfl) (by kernel_rfl) (by kernel_rfl) (by kernel_rfl) (by intro _ _ _ h; exact h) (Or.inl ⟨by rfl, ?_⟩) (by assumption) ?_
  rotate_left
  · (intro w' hSw; (try dsimp only at hSw); go_simp; try with_reducible rfl)
  (try simp only [Act.put, List.setIfInBounds_toArray, List.set_cons_zero, List.set_cons_succ])
  refine wpAnyH_take (i := 12) (v := ?_) (by simp only [List.getElem?_toArray, List.getElem?_cons_succ, List.getElem?_cons_zero]; rfl) (by kernel_rfl) (by kernel_rfl) (by kernel_rfl) (by intro _ _ _ h; exact h) (Or.inl ⟨by rfl, ?_⟩) (by assumption) ?_
  rotate_left
  · (intro w' hSw; (try dsimp only at hSw); go_simp; try with_reducible rfl)
  (try simp only [Act.put, List.setIfInBounds_toArray, List.set_cons_zero, List.set_cons_succ])
  refine wpAnyH_take (i := 13) (v := ?_) (by simp only [List.getElem?_toArray, List.getElem?_cons_succ, List.getElem?_cons_zero]; rfl) (by kernel_rfl) (by kernel_rfl) (by kernel_rfl) (by intro _ _ _ h; exact h) (Or.inl ⟨by rfl, ?_⟩) (by assumption) ?_
  rotate_left
  · (intro w' hSw; (try dsimp only at hSw); go_simp; try with_reducible rfl)
  (try simp only [Act.put, List.setIfInBounds_toArray, List.set_cons_zero, List.set_cons_succ])
  refine wpAnyH_take (i := 14) (v := ?_) (by simp only [List.getElem?_toArray, List.getElem?_cons_succ, List.getElem?_cons_zero]; rfl) (by kernel_rfl) (by kernel_rfl) (by kernel_rfl) (by intro _ _ _ h; exact h) (Or.inl ⟨by rfl, ?_⟩) (by assumption) ?_
  rotate_left
  · (intro w' hSw; (try dsimp only at hSw); go_simp; try with_reducible rfl)
  (try simp only [Act.put, List.setIfInBounds_toArray, List.set_cons_zero, List.set_cons_succ])
  refine wpAnyH_take (i := 15) (v := ?_) (by simp only [List.getElem?_toArray, List.getElem?_cons_succ, List.getElem?_cons_zero]; rfl) (by kernel_rfl) (by kernel_rfl) (by kernel_rfl) (by intro _ _ _ h; exact h) (Or.inl ⟨by rfl, ?_⟩) (by assumption) ?_
  rotate_left
  · (intro w' hSw; (try dsimp only at hSw); go_simp; try with_reducible rfl)
  (try simp only [Act.put, List.setIfInBounds_toArray, List.set_cons_zero, List.set_cons_succ])
  refine wpAnyH_take (i := 16) (v := ?_) (by simp only [List.getElem?_toArray, List.getElem?_cons_succ, List.getElem?_cons_zero]; rfl) (by kernel_rfl) (by kernel_rfl) (by kernel_rfl) (by intro _ _ _ h; exact h) (Or.inl ⟨by rfl, ?_⟩) (by assumption) ?_
  rotate_left
  · (intro w' hSw; (try dsimp only at hSw); go_simp; try with_reducible rfl)
  (try simp only [Act.put, List.setIfInBounds_toArray, List.set_cons_zero, List.set_cons_succ])
  refine wpAnyH_ready (rs := [0]) (by kernel_rfl) (by simp) ?_
  refine AllReadyH.cons (by simp only [List.getElem?_toArray, List.getElem?_cons_zero]; rfl) (fun K hK => ?_) AllReadyH.nil
  go_simp
  refine hK.out _ _ ?_ (fun hHeld => ?_)
  · exact g1d
  clear hK K
  (try simp only [Act.put, List.setIfInBounds_toArray, List.set_cons_zero, List.set_cons_succ])
  refine wpAnyH_ready (rs := [17]) (by kernel_rfl) (by simp) ?_
  refine AllReadyH.cons (by simp only [List.getElem?_toArray, List.getElem?_cons_succ, List.getElem?_cons_zero]; rfl) (fun K hK => ?_) AllReadyH.nil
  go_simp
  refine (plus_any r0 r1 r2 r3 s01 s02 s03 v0 hr hwin _).mono ?_
  rintro e v ⟨s10, s11, s12, s13, cy, rfl, hs, hsc, k2⟩
  have g2 := S4.below g1d k2
  have R2 := Rw.below (W := V.drew) ⟨⟨rz, rc0, rc1, rc2, rc3⟩, rf⟩ k2
  have P2 := PS.below (PS.drew P1) k2
  have E2 := belowStep (Below.drew E1) (Below.drew E1).size k2
  obtain ⟨⟨sz, sc0, sc1, sc2, sc3⟩, sf⟩ := id R2
  go_wp2_with fail
  refine hK.out _ _ ?_ (fun hHeld => ?_)
  · exact g2
  clear hK K
  (try simp only [Act.put, List.setIfInBounds_toArray, List.set_cons_zero, List.set_cons_succ])
  refine wpAnyH_take (i := 18) (v := ?_) (by simp only [List.getElem?_toArray, List.getElem?_cons_succ, List.getElem?_cons_zero]; rfl) (by kernel_rfl) (by kernel_rfl) (by kernel_rfl) (by intro _ _ _ h; exact h) (Or.inl ⟨by rfl, ?_⟩) (by assumption) ?_
  rotate_left
  · (intro w' hSw; (try dsimp only at hSw); go_simp; try with_reducible rfl)
  (try simp only [Act.put, List.setIfInBounds_toArray, List.set_cons_zero, List.set_cons_succ])
  refine wpAnyH_take (i := 19) (v := ?_) (by simp only [List.getElem?_toArray, List.getElem?_cons_succ, List.getElem?_cons_zero]; rfl) (by kernel_rfl) (by kernel_rfl) (by kernel_rfl) (by intro _ _ _ h; exact h) (Or.inl ⟨by rfl, ?_⟩) (by assumption) ?_
  rotate_left
  · (intro w' hSw; (try dsimp only at hSw); go_simp; try with_reducible rfl)
  (try simp only [Act.put, List.setIfInBounds_toArray, List.set_cons_zero, List.set_cons_succ])
  refine wpAnyH_take (i := 20) (v := ?_) (by simp only [List.getElem?_toArray, List.getElem?_cons_succ, List.getElem?_cons_zero]; rfl) (by kernel_rfl) (by kernel_rfl) (by kernel_rfl) (by intro _ _ _ h; exact h) (Or.inl ⟨by rfl, ?_⟩) (by assumption) ?_
  rotate_left
  · (intro w' hSw; (try dsimp only at hSw); go_simp; try with_reducible rfl)
  (try simp only [Act.put, List.setIfInBounds_toArray, List.set_cons_zero, List.set_cons_succ])
  refine wpAnyH_ready (rs := [21]) (by kernel_rfl) (by simp) ?_
  refine AllReadyH.cons (by simp only [List.getElem?_toArray, List.getElem?_cons_succ, List.getElem?_cons_zero]; rfl) (fun K hK => ?_) AllReadyH.nil
  go_simp
  refine hK.out _ _ ?_ (fun hHeld => ?_)
  · repeat' (first | with_reducible exact g2 | with_reducible refine S4.setCell (p := w.heap.size + 1 + 1 + 1) (k0 := 1) (k1 := 2) (k2 := 3) (k3 := 4) (y0 := s01) (y1 := s02) (y2 := s03) (y3 := v0) ?_ _ ?_ _ | (dsimp only; omega))
  clear hK K
  (try simp only [Act.put, List.setIfInBounds_toArray, List.set_cons_zero, List.set_cons_succ])
  refine wpAnyH_take (i := 22) (v := ?_) (by simp only [List.getElem?_toArray, List.getElem?_cons_succ, List.getElem?_cons_zero]; rfl) (by kernel_rfl) (by kernel_rfl) (by kernel_rfl) (by intro _ _ _ h; exact h) (Or.inl ⟨by rfl, ?_⟩) (by assumption) ?_
  rotate_left
  · (intro w' hSw; (try dsimp only at hSw); go_simp; try with_reducible rfl)
  (try simp only [Act.put, List.setIfInBounds_toArray, List.set_cons_zero, List.set_cons_succ])
  refine wpAnyH_done (by kernel_rfl) ?_ _
  clear hHeld
  go_wp2
  refine wpOf (fun W => Below w.heap.size w W ∧ PS w.heap.size a0 a1 a2 a3 s00 s01 s02 s03 v0 0 0 0 0 0 0 0 W ∧ Cw w2.heap.size s10 s11 s12 s13 W) ⟨?_, ?_, ?_⟩ ?_
  · go_grown
  · exact PS.over P2 zg
  · exact Cw.over R2.w
  rintro V2 ⟨E3, P3, R3⟩
  obtain ⟨hp, hpv⟩ := hru.out
  obtain ⟨hcy0, hcy1, hcv⟩ := hsc.out
  obtain ⟨v1, wv, hv1⟩ := round_val u cy (val a0 a1 a2 a3) b1 (val r0 r1 r2 r3) (val s01 s02 s03 v0) (val s10 s11 s12 s13) hpv hcv hA hb.2.1 (val_bd _ _ _ _ hs).1 (val_bd _ _ _ _ hwin).2 hp.1 hcy0
  clear P1 R1 E1 g1 g1d g2 R2 P2 E2 rz rc0 rc1 rc2 rc3 rf sz sc0 sc1 sc2 sc3 sf k2
  obtain ⟨⟨z0, c0, c1, c2, c3⟩, z, p0, p1, p2, p3, p4, p5, p6, p7, p8, p9, p10, p11, pf, _⟩ := id P3
  have cp := copy1 (PS.drew P3) (Cw.drew R3)
  simp only [World.setCells] at cp
  go_region
  go_wp2
  have Pn := PS.drew (PS.step1 P3 s10 s11 s12 s13 v1)
  have En : Below w.heap.size w _ := Below.drew (((((E3.setCell (p := ⟨w.heap.size + 1 + 1 + 1, 1, none⟩) (by dsimp only; omega) (.int .u64 s10)).setCell (p := ⟨w.heap.size + 1 + 1 + 1, 2, none⟩) (by dsimp only; omega) (.int .u64 s11)).setCell (p := ⟨w.heap.size + 1 + 1 + 1, 3, none⟩) (by dsimp only; omega) (.int .u64 s12)).setCell (p := ⟨w.heap.size + 1 + 1 + 1, 4, none⟩) (by dsimp only; omega) (.int .u64 s13)).setCell (p := ⟨w.heap.size + 1 + 1 + 1, 5, none⟩) (by dsimp only; omega) (.int .u64 v1))
  obtain ⟨Hs10, Hs11, Hs12, Hs13⟩ := hs
  have Hv1 := hv1.out.1
  have G1 : Hid (_ = _) := hv1.out.2
  clear P3 R3 E3 cp wv hv1 hpv hcv hp hcy0 hcy1 hsc hru hr hwin zg z p0 p1 p2 p3 p4 p5 p6 p7 p8 p9 p10 p11 pf
  rw [rounds_succ]; go_wp2_with fail
  refine (times_any a0 a1 a2 a3 b2 ha hb.2.2.1 _).mono ?_
  rintro e w3 ⟨r0, r1, r2, r3, u, rfl, hr, hru, k1⟩
  have P0 := PS.below Pn k1
  have E0 := belowStep En En.size k1
  clear Pn En z0 c0 c1 c2 c3
  clear k1
  go_wp2
  refine wpOf (fun W => Below w.heap.size w W ∧ PS w.heap.size a0 a1 a2 a3 s00 s10 s11 s12 s13 v1 0 0 0 0 0 0 W ∧ Rw w3.heap.size r0 r1 r2 r3 W ∧ w.heap.size + 1 + 1 + 1 < w3.heap.size) ⟨?_, ?_, ?_, ?_⟩ ?_
  · exact E0.alloc E0.size _
  · exact P0.below ((Below.refl _ _).alloc (Nat.le_refl _) _)
  · exact Rw.new _ _ _ _ _ _
  · exact P0.z
  rintro V ⟨E1, P1, R1, zg⟩
  clear P0 E0
  have hwin : Ws s11 s12 s13 v1 := ⟨Hs11, Hs12, Hs13, Hv1⟩
  have g1 : S4 (w.heap.size + 1 + 1 + 1) 2 3 4 5 s11 s12 s13 v1 V := ⟨P1.z, P1.p2, P1.p3, P1.p4, P1.p5⟩
  have g1d := S4.drew g1
  obtain ⟨⟨rz, rc0, rc1, rc2, rc3⟩, rf⟩ := id R1
  have wa1 : IntKind.i64.wrap (2 + 1) = 3 := by decide
  have wb1 : IntKind.i64.wrap 3 = 3 := by decide
  have wa2 : IntKind.i64.wrap (2 + 2) = 4 := by decide
  have wb2 : IntKind.i64.wrap 4 = 4 := by decide
  have wa3 : IntKind.i64.wrap (2 + 3) = 5 := by decide
  have wb3 : IntKind.i64.wrap 5 = 5 := by decide
  have wa4 : IntKind.i64.wrap (2 + 4) = 6 := by decide
  have wb4 : IntKind.i64.wrap 6 = 6 := by decide
  refine wp_region_held_drew (S := (fun w' => w.heap.size + 1 + 1 + 1 < w'.heap.size ∧ w'.cell? ⟨w.heap.size + 1 + 1 + 1, 2, none⟩ = some (.int .u64 s11) ∧ w'.cell? ⟨w.heap.size + 1 + 1 + 1, 3, none⟩ = some (.int .u64 s12) ∧ w'.cell? ⟨w.heap.size + 1 + 1 + 1, 4, none⟩ = some (.int .u64 s13) ∧ w'.cell? ⟨w.heap.size + 1 + 1 + 1, 5, none⟩ = some (.int .u64 v1))) (by kernel_rfl) g1d (fun hHeld => ?_)
  refine wpAnyH_take (i := 1) (v := ?_) (by simp only [List.getElem?_toArray, List.getElem?_cons_succ, List.getElem?_cons_zero]; rfl) (by kernel_rfl) (by kernel_rfl) (by kernel_rfl) (by intro _ _ _ h; exact h) (Or.inl ⟨by rfl, ?_⟩) (by assumption) ?_
  rotate_left
  · (intro w' hSw; (try dsimp only at hSw); go_simp; try with_reducible rfl)
  (try simp only [Act.put, List.setIfInBounds_toArray, List.set_cons_zero, List.set_cons_succ])
  refine wpAnyH_take (i := 2) (v := ?_) (by simp only [List.getElem?_toArray, List.getElem?_cons_succ, List.getElem?_cons_zero]; rfl) (by kernel_rfl) (by kernel_rfl) (by kernel_rfl) (by intro _ _ _ h; exact h) (Or.inl ⟨by rfl, ?_⟩) (by assumption) ?_
  rotate_left
  · (intro w' hSw; (try dsimp only at hSw); go_simp; try with_reducible rfl)
  (try simp only [Act.put, List.setIfInBounds_toArray, List.set_cons_zero, List.set_cons_succ])
  refine wpAnyH_take (i := 3) (v := ?_) (by simp only [List.getElem?_toArray, List.getElem?_cons_succ, List.getElem?_cons_zero]; rfl) (by kernel_rfl) (by kernel_rfl) (by kernel_rfl) (by intro _ _ _ h; exact h) (Or.inl ⟨by rfl, ?_⟩) (by assumption) ?_
  rotate_left
  · (intro w' hSw; (try dsimp only at hSw); go_simp; try with_reducible rfl)
  (try simp only [Act.put, List.setIfInBounds_toArray, List.set_cons_zero, List.set_cons_succ])
  refine wpAnyH_take (i := 4) (v := ?_) (by simp only [List.getElem?_toArray, List.getElem?_cons_succ, List.getElem?_cons_zero]; rfl) (by kernel_rfl) (by kernel_rfl) (by kernel_rfl) (by intro _ _ _ h; exact h) (Or.inl ⟨by rfl, ?_⟩) (by assumption) ?_
  rotate_left
  · (intro w' hSw; (try dsimp only at hSw); go_simp; try with_reducible rfl)
  (try simp only [Act.put, List.setIfInBounds_toArray, List.set_cons_zero, List.set_cons_succ])
  refine wpAnyH_take (i := 5) (v := ?_) (by simp only [List.getElem?_toArray, List.getElem?_cons_succ, List.getElem?_cons_zero]; rfl) (by kernel_rfl) (by kernel_rfl) (by kernel_rfl) (by intro _ _ _ h; exact h) (Or.inl ⟨by rfl, ?_⟩) (by assumption) ?_
  rotate_left
  · (intro w' hSw; (try dsimp only at hSw); go_simp; try with_reducible rfl)
  (try simp only [Act.put, List.setIfInBounds_toArray, List.set_cons_zero, List.set_cons_succ])
  refine wpAnyH_take (i := 6) (v := ?_) (by simp only [List.getElem?_toArray, List.getElem?_cons_succ, List.getElem?_cons_zero]; rfl) (by kernel_rfl) (by kernel_rfl) (by kernel_rfl) (by intro _ _ _ h; exact h) (Or.inl ⟨by rfl, ?_⟩) (by assumption) ?_
  rotate_left
  · (intro w' hSw; (try dsimp only at hSw); go_simp; try with_reducible rfl)
  (try simp only [Act.put, List.setIfInBounds_toArray, List.set_cons_zero, List.set_cons_succ])
  refine wpAnyH_take (i := 7) (v := ?_) (by simp only [List.getElem?_toArray, List.getElem?_cons_succ, List.getElem?_cons_zero]; rfl) (by kernel_rfl) (by kernel_rfl) (by kernel_rfl) (by intro _ _ _ h; exact h) (Or.inl ⟨by rfl, ?_⟩) (by assumption) ?_
  rotate_left
  · (intro w' hSw; (try dsimp only at hSw); go_simp; try with_reducible rfl)
  (try simp only [Act.put, List.setIfInBounds_toArray, List.set_cons_zero, List.set_cons_succ])
  refine wpAnyH_take (i := 8) (v := ?_) (by simp only [List.getElem?_toArray, List.getElem?_cons_succ, List.getElem?_cons_zero]; rfl) (by kernel_rfl) (by kernel_rfl) (by kernel_rfl) (by intro _ _ _ h; exact h) (Or.inl ⟨by rfl, ?_⟩) (by assumption) ?_
  rotate_left
  · (intro w' hSw; (try dsimp only at hSw); go_simp; try with_reducible rfl)
  (try simp only [Act.put, List.setIfInBounds_toArray, List.set_cons_zero, List.set_cons_succ])
  refine wpAnyH_take (i := 9) (v := ?_) (by simp only [List.getElem?_toArray, List.getElem?_cons_succ, List.getElem?_cons_zero]; rfl) (by kernel_rfl) (by kernel_rfl) (by kernel_rfl) (by intro _ _ _ h; exact h) (Or.inl ⟨by rfl, ?_⟩) (by assumption) ?_
  rotate_left
  · (intro w' hSw; (try dsimp only at hSw); go_simp; try with_reducible rfl)
  (try simp only [Act.put, List.setIfInBounds_toArray, List.set_cons_zero, List.set_cons_succ])
  refine wpAnyH_take (i := 10) (v := ?_) (by simp only [List.getElem?_toArray, List.getElem?_cons_succ, List.getElem?_cons_zero]; rfl) (by kernel_rfl) (by kernel_rfl) (by kernel_rfl) (by intro _ _ _ h; exact h) (Or.inl ⟨by rfl, ?_⟩) (by assumption) ?_
  rotate_left
  · (intro w' hSw; (try dsimp only at hSw); go_simp; try with_reducible rfl)
  (try simp only [Act.put, List.setIfInBounds_toArray, List.set_cons_zero, List.set_cons_succ])
  refine wpAnyH_take (i := 11) (v := ?_) (by simp only [List.getElem?_toArray, List.getElem?_cons_succ, List.getElem?_cons_zero]; rfl) (by kernel_rfl) (by kernel_rfl) (by kernel_rfl) (by intro _ _ _ h; exact h) (Or.inl ⟨by rfl, ?_⟩) (by assumption) ?_
  rotate_left
  · (intro w' hSw; (try dsimp only at hSw); go_simp; try with_reducible rfl)
  (try simp only [Act.put, List.setIfInBounds_toArray, List.set_cons_zero, List.set_cons_succ])
  refine wpAnyH_take (i := 12) (v := ?_) (by simp only [List.getElem?_toArray, List.getElem?_cons_succ, List.getElem?_cons_zero]; rfl) (by kernel_rfl) (by kernel_rfl) (by kernel_rfl) (by intro _ _ _ h; exact h) (Or.inl ⟨by rfl, ?_⟩) (by assumption) ?_
  rotate_left
  · (intro w' hSw; (try dsimp only at hSw); go_simp; try with_reducible rfl)
  (try simp only [Act.put, List.setIfInBounds_toArray, List.set_cons_zero, List.set_cons_succ])
  refine wpAnyH_take (i := 13) (v := ?_) (by simp only [List.getElem?_toArray, List.getElem?_cons_succ, List.getElem?_cons_zero]; rfl) (by kernel_rfl) (by kernel_rfl) (by kernel_rfl) (by intro _ _ _ h; exact h) (Or.inl ⟨by rfl, ?_⟩) (by assumption) ?_
  rotate_left
  · (intro w' hSw; (try dsimp only at hSw); go_simp; try with_reducible rfl)
  (try simp only [Act.put, List.setIfInBounds_toArray, List.set_cons_zero, List.set_cons_succ])
  refine wpAnyH_take (i := 14) (v := ?_) (by simp only [List.getElem?_toArray, List.getElem?_cons_succ, List.getElem?_cons_zero]; rfl) (by kernel_rfl) (by kernel_rfl) (by kernel_rfl) (by intro _ _ _ h; exact h) (Or.inl ⟨by rfl, ?_⟩) (by assumption) ?_
  rotate_left
  · (intro w' hSw; (try dsimp only at hSw); go_simp; try with_reducible rfl)
  (try simp only [Act.put, List.setIfInBounds_toArray, List.set_cons_zero, List.set_cons_succ])
  refine wpAnyH_take (i := 15) (v := ?_) (by simp only [List.getElem?_toArray, List.getElem?_cons_succ, List.getElem?_cons_zero]; rfl) (by kernel_rfl) (by kernel_rfl) (by kernel_rfl) (by intro _ _ _ h; exact h) (Or.inl ⟨by rfl, ?_⟩) (by assumption) ?_
  rotate_left
  · (intro w' hSw; (try dsimp only at hSw); go_simp; try with_reducible rfl)
  (try simp only [Act.put, List.setIfInBounds_toArray, List.set_cons_zero, List.set_cons_succ])
  refine wpAnyH_take (i := 16) (v := ?_) (by simp only [List.getElem?_toArray, List.getElem?_cons_succ, List.getElem?_cons_zero]; rfl) (by kernel_rfl) (by kernel_rfl) (by kernel_rfl) (by intro _ _ _ h; exact h) (Or.inl ⟨by rfl, ?_⟩) (by assumption) ?_
  rotate_left
  · (intro w' hSw; (try dsimp only at hSw); go_simp; try with_reducible rfl)
  (try simp only [Act.put, List.setIfInBounds_toArray, List.set_cons_zero, List.set_cons_succ])
  refine wpAnyH_ready (rs := [0]) (by kernel_rfl) (by simp) ?_
  refine AllReadyH.cons (by simp only [List.getElem?_toArray, List.getElem?_cons_zero]; rfl) (fun K hK => ?_) AllReadyH.nil
  go_simp
  refine hK.out _ _ ?_ (fun hHeld => ?_)
  · exact g1d
  clear hK K
  (try simp only [Act.put, List.setIfInBounds_toArray, List.set_cons_zero, List.set_cons_succ])
  refine wpAnyH_ready (rs := [17]) (by kernel_rfl) (by simp) ?_
  refine AllReadyH.cons (by simp only [List.getElem?_toArray, List.getElem?_cons_succ, List.getElem?_cons_zero]; rfl) (fun K hK => ?_) AllReadyH.nil
  go_simp
  refine (plus_any r0 r1 r2 r3 s11 s12 s13 v1 hr hwin _).mono ?_
  rintro e v ⟨s20, s21, s22, s23, cy, rfl, hs, hsc, k2⟩
  have g2 := S4.below g1d k2
  have R2 := Rw.below (W := V.drew) ⟨⟨rz, rc0, rc1, rc2, rc3⟩, rf⟩ k2
  have P2 := PS.below (PS.drew P1) k2
  have E2 := belowStep (Below.drew E1) (Below.drew E1).size k2
  obtain ⟨⟨sz, sc0, sc1, sc2, sc3⟩, sf⟩ := id R2
  go_wp2_with fail
  refine hK.out _ _ ?_ (fun hHeld => ?_)
  · exact g2
  clear hK K
  (try simp only [Act.put, List.setIfInBounds_toArray, List.set_cons_zero, List.set_cons_succ])
  refine wpAnyH_take (i := 18) (v := ?_) (by simp only [List.getElem?_toArray, List.getElem?_cons_succ, List.getElem?_cons_zero]; rfl) (by kernel_rfl) (by kernel_rfl) (by kernel_rfl) (by intro _ _ _ h; exact h) (Or.inl ⟨by rfl, ?_⟩) (by assumption) ?_
  rotate_left
  · (intro w' hSw; (try dsimp only at hSw); go_simp; try with_reducible rfl)
  (try simp only [Act.put, List.setIfInBounds_toArray, List.set_cons_zero, List.set_cons_succ])
  refine wpAnyH_take (i := 19) (v := ?_) (by simp only [List.getElem?_toArray, List.getElem?_cons_succ, List.getElem?_cons_zero]; rfl) (by kernel_rfl) (by kernel_rfl) (by kernel_rfl) (by intro _ _ _ h; exact h) (Or.inl ⟨by rfl, ?_⟩) (by assumption) ?_
  rotate_left
  · (intro w' hSw; (try dsimp only at hSw); go_simp; try with_reducible rfl)
  (try simp only [Act.put, List.setIfInBounds_toArray, List.set_cons_zero, List.set_cons_succ])
  refine wpAnyH_take (i := 20) (v := ?_) (by simp only [List.getElem?_toArray, List.getElem?_cons_succ, List.getElem?_cons_zero]; rfl) (by kernel_rfl) (by kernel_rfl) (by kernel_rfl) (by intro _ _ _ h; exact h) (Or.inl ⟨by rfl, ?_⟩) (by assumption) ?_
  rotate_left
  · (intro w' hSw; (try dsimp only at hSw); go_simp; try with_reducible rfl)
  (try simp only [Act.put, List.setIfInBounds_toArray, List.set_cons_zero, List.set_cons_succ])
  refine wpAnyH_ready (rs := [21]) (by kernel_rfl) (by simp) ?_
  refine AllReadyH.cons (by simp only [List.getElem?_toArray, List.getElem?_cons_succ, List.getElem?_cons_zero]; rfl) (fun K hK => ?_) AllReadyH.nil
  go_simp
  refine hK.out _ _ ?_ (fun hHeld => ?_)
  · repeat' (first | with_reducible exact g2 | with_reducible refine S4.setCell (p := w.heap.size + 1 + 1 + 1) (k0 := 2) (k1 := 3) (k2 := 4) (k3 := 5) (y0 := s11) (y1 := s12) (y2 := s13) (y3 := v1) ?_ _ ?_ _ | (dsimp only; omega))
  clear hK K
  (try simp only [Act.put, List.setIfInBounds_toArray, List.set_cons_zero, List.set_cons_succ])
  refine wpAnyH_take (i := 22) (v := ?_) (by simp only [List.getElem?_toArray, List.getElem?_cons_succ, List.getElem?_cons_zero]; rfl) (by kernel_rfl) (by kernel_rfl) (by kernel_rfl) (by intro _ _ _ h; exact h) (Or.inl ⟨by rfl, ?_⟩) (by assumption) ?_
  rotate_left
  · (intro w' hSw; (try dsimp only at hSw); go_simp; try with_reducible rfl)
  (try simp only [Act.put, List.setIfInBounds_toArray, List.set_cons_zero, List.set_cons_succ])
  refine wpAnyH_done (by kernel_rfl) ?_ _
  clear hHeld
  go_wp2
  refine wpOf (fun W => Below w.heap.size w W ∧ PS w.heap.size a0 a1 a2 a3 s00 s10 s11 s12 s13 v1 0 0 0 0 0 0 W ∧ Cw w3.heap.size s20 s21 s22 s23 W) ⟨?_, ?_, ?_⟩ ?_
  · go_grown
  · exact PS.over P2 zg
  · exact Cw.over R2.w
  rintro V2 ⟨E3, P3, R3⟩
  obtain ⟨hp, hpv⟩ := hru.out
  obtain ⟨hcy0, hcy1, hcv⟩ := hsc.out
  obtain ⟨v2, wv, hv2⟩ := round_val u cy (val a0 a1 a2 a3) b2 (val r0 r1 r2 r3) (val s11 s12 s13 v1) (val s20 s21 s22 s23) hpv hcv hA hb.2.2.1 (val_bd _ _ _ _ hs).1 (val_bd _ _ _ _ hwin).2 hp.1 hcy0
  clear P1 R1 E1 g1 g1d g2 R2 P2 E2 rz rc0 rc1 rc2 rc3 rf sz sc0 sc1 sc2 sc3 sf k2
  obtain ⟨⟨z0, c0, c1, c2, c3⟩, z, p0, p1, p2, p3, p4, p5, p6, p7, p8, p9, p10, p11, pf, _⟩ := id P3
  have cp := copy2 (PS.drew P3) (Cw.drew R3)
  simp only [World.setCells] at cp
  go_region
  go_wp2
  have Pn := PS.drew (PS.step2 P3 s20 s21 s22 s23 v2)
  have En : Below w.heap.size w _ := Below.drew (((((E3.setCell (p := ⟨w.heap.size + 1 + 1 + 1, 2, none⟩) (by dsimp only; omega) (.int .u64 s20)).setCell (p := ⟨w.heap.size + 1 + 1 + 1, 3, none⟩) (by dsimp only; omega) (.int .u64 s21)).setCell (p := ⟨w.heap.size + 1 + 1 + 1, 4, none⟩) (by dsimp only; omega) (.int .u64 s22)).setCell (p := ⟨w.heap.size + 1 + 1 + 1, 5, none⟩) (by dsimp only; omega) (.int .u64 s23)).setCell (p := ⟨w.heap.size + 1 + 1 + 1, 6, none⟩) (by dsimp only; omega) (.int .u64 v2))
  obtain ⟨Hs20, Hs21, Hs22, Hs23⟩ := hs
  have Hv2 := hv2.out.1
  have G2 : Hid (_ = _) := hv2.out.2
  clear P3 R3 E3 cp wv hv2 hpv hcv hp hcy0 hcy1 hsc hru hr hwin zg z p0 p1 p2 p3 p4 p5 p6 p7 p8 p9 p10 p11 pf
  rw [rounds_succ]; go_wp2_with fail
  refine (times_any a0 a1 a2 a3 b3 ha hb.2.2.2 _).mono ?_
  rintro e w4 ⟨r0, r1, r2, r3, u, rfl, hr, hru, k1⟩
  have P0 := PS.below Pn k1
  have E0 := belowStep En En.size k1
  clear Pn En z0 c0 c1 c2 c3
  clear k1
  go_wp2
  refine wpOf (fun W => Below w.heap.size w W ∧ PS w.heap.size a0 a1 a2 a3 s00 s10 s20 s21 s22 s23 v2 0 0 0 0 0 W ∧ Rw w4.heap.size r0 r1 r2 r3 W ∧ w.heap.size + 1 + 1 + 1 < w4.heap.size) ⟨?_, ?_, ?_, ?_⟩ ?_
  · exact E0.alloc E0.size _
  · exact P0.below ((Below.refl _ _).alloc (Nat.le_refl _) _)
  · exact Rw.new _ _ _ _ _ _
  · exact P0.z
  rintro V ⟨E1, P1, R1, zg⟩
  clear P0 E0
  have hwin : Ws s21 s22 s23 v2 := ⟨Hs21, Hs22, Hs23, Hv2⟩
  have g1 : S4 (w.heap.size + 1 + 1 + 1) 3 4 5 6 s21 s22 s23 v2 V := ⟨P1.z, P1.p3, P1.p4, P1.p5, P1.p6⟩
  have g1d := S4.drew g1
  obtain ⟨⟨rz, rc0, rc1, rc2, rc3⟩, rf⟩ := id R1
  have wa1 : IntKind.i64.wrap (3 + 1) = 4 := by decide
  have wb1 : IntKind.i64.wrap 4 = 4 := by decide
  have wa2 : IntKind.i64.wrap (3 + 2) = 5 := by decide
  have wb2 : IntKind.i64.wrap 5 = 5 := by decide
  have wa3 : IntKind.i64.wrap (3 + 3) = 6 := by decide
  have wb3 : IntKind.i64.wrap 6 = 6 := by decide
  have wa4 : IntKind.i64.wrap (3 + 4) = 7 := by decide
  have wb4 : IntKind.i64.wrap 7 = 7 := by decide
  refine wp_region_held_drew (S := (fun w' => w.heap.size + 1 + 1 + 1 < w'.heap.size ∧ w'.cell? ⟨w.heap.size + 1 + 1 + 1, 3, none⟩ = some (.int .u64 s21) ∧ w'.cell? ⟨w.heap.size + 1 + 1 + 1, 4, none⟩ = some (.int .u64 s22) ∧ w'.cell? ⟨w.heap.size + 1 + 1 + 1, 5, none⟩ = some (.int .u64 s23) ∧ w'.cell? ⟨w.heap.size + 1 + 1 + 1, 6, none⟩ = some (.int .u64 v2))) (by kernel_rfl) g1d (fun hHeld => ?_)
  refine wpAnyH_take (i := 1) (v := ?_) (by simp only [List.getElem?_toArray, List.getElem?_cons_succ, List.getElem?_cons_zero]; rfl) (by kernel_rfl) (by kernel_rfl) (by kernel_rfl) (by intro _ _ _ h; exact h) (Or.inl ⟨by rfl, ?_⟩) (by assumption) ?_
  rotate_left
  · (intro w' hSw; (try dsimp only at hSw); go_simp; try with_reducible rfl)
  (try simp only [Act.put, List.setIfInBounds_toArray, List.set_cons_zero, List.set_cons_succ])
  refine wpAnyH_take (i := 2) (v := ?_) (by simp only [List.getElem?_toArray, List.getElem?_cons_succ, List.getElem?_cons_zero]; rfl) (by kernel_rfl) (by kernel_rfl) (by kernel_rfl) (by intro _ _ _ h; exact h) (Or.inl ⟨by rfl, ?_⟩) (by assumption) ?_
  rotate_left
  · (intro w' hSw; (try dsimp only at hSw); go_simp; try with_reducible rfl)
  (try simp only [Act.put, List.setIfInBounds_toArray, List.set_cons_zero, List.set_cons_succ])
  refine wpAnyH_take (i := 3) (v := ?_) (by simp only [List.getElem?_toArray, List.getElem?_cons_succ, List.getElem?_cons_zero]; rfl) (by kernel_rfl) (by kernel_rfl) (by kernel_rfl) (by intro _ _ _ h; exact h) (Or.inl ⟨by rfl, ?_⟩) (by assumption) ?_
  rotate_left
  · (intro w' hSw; (try dsimp only at hSw); go_simp; try with_reducible rfl)
  (try simp only [Act.put, List.setIfInBounds_toArray, List.set_cons_zero, List.set_cons_succ])
  refine wpAnyH_take (i := 4) (v := ?_) (by simp only [List.getElem?_toArray, List.getElem?_cons_succ, List.getElem?_cons_zero]; rfl) (by kernel_rfl) (by kernel_rfl) (by kernel_rfl) (by intro _ _ _ h; exact h) (Or.inl ⟨by rfl, ?_⟩) (by assumption) ?_
  rotate_left
  · (intro w' hSw; (try dsimp only at hSw); go_simp; try with_reducible rfl)
  (try simp only [Act.put, List.setIfInBounds_toArray, List.set_cons_zero, List.set_cons_succ])
  refine wpAnyH_take (i := 5) (v := ?_) (by simp only [List.getElem?_toArray, List.getElem?_cons_succ, List.getElem?_cons_zero]; rfl) (by kernel_rfl) (by kernel_rfl) (by kernel_rfl) (by intro _ _ _ h; exact h) (Or.inl ⟨by rfl, ?_⟩) (by assumption) ?_
  rotate_left
  · (intro w' hSw; (try dsimp only at hSw); go_simp; try with_reducible rfl)
  (try simp only [Act.put, List.setIfInBounds_toArray, List.set_cons_zero, List.set_cons_succ])
  refine wpAnyH_take (i := 6) (v := ?_) (by simp only [List.getElem?_toArray, List.getElem?_cons_succ, List.getElem?_cons_zero]; rfl) (by kernel_rfl) (by kernel_rfl) (by kernel_rfl) (by intro _ _ _ h; exact h) (Or.inl ⟨by rfl, ?_⟩) (by assumption) ?_
  rotate_left
  · (intro w' hSw; (try dsimp only at hSw); go_simp; try with_reducible rfl)
  (try simp only [Act.put, List.setIfInBounds_toArray, List.set_cons_zero, List.set_cons_succ])
  refine wpAnyH_take (i := 7) (v := ?_) (by simp only [List.getElem?_toArray, List.getElem?_cons_succ, List.getElem?_cons_zero]; rfl) (by kernel_rfl) (by kernel_rfl) (by kernel_rfl) (by intro _ _ _ h; exact h) (Or.inl ⟨by rfl, ?_⟩) (by assumption) ?_
  rotate_left
  · (intro w' hSw; (try dsimp only at hSw); go_simp; try with_reducible rfl)
  (try simp only [Act.put, List.setIfInBounds_toArray, List.set_cons_zero, List.set_cons_succ])
  refine wpAnyH_take (i := 8) (v := ?_) (by simp only [List.getElem?_toArray, List.getElem?_cons_succ, List.getElem?_cons_zero]; rfl) (by kernel_rfl) (by kernel_rfl) (by kernel_rfl) (by intro _ _ _ h; exact h) (Or.inl ⟨by rfl, ?_⟩) (by assumption) ?_
  rotate_left
  · (intro w' hSw; (try dsimp only at hSw); go_simp; try with_reducible rfl)
  (try simp only [Act.put, List.setIfInBounds_toArray, List.set_cons_zero, List.set_cons_succ])
  refine wpAnyH_take (i := 9) (v := ?_) (by simp only [List.getElem?_toArray, List.getElem?_cons_succ, List.getElem?_cons_zero]; rfl) (by kernel_rfl) (by kernel_rfl) (by kernel_rfl) (by intro _ _ _ h; exact h) (Or.inl ⟨by rfl, ?_⟩) (by assumption) ?_
  rotate_left
  · (intro w' hSw; (try dsimp only at hSw); go_simp; try with_reducible rfl)
  (try simp only [Act.put, List.setIfInBounds_toArray, List.set_cons_zero, List.set_cons_succ])
  refine wpAnyH_take (i := 10) (v := ?_) (by simp only [List.getElem?_toArray, List.getElem?_cons_succ, List.getElem?_cons_zero]; rfl) (by kernel_rfl) (by kernel_rfl) (by kernel_rfl) (by intro _ _ _ h; exact h) (Or.inl ⟨by rfl, ?_⟩) (by assumption) ?_
  rotate_left
  · (intro w' hSw; (try dsimp only at hSw); go_simp; try with_reducible rfl)
  (try simp only [Act.put, List.setIfInBounds_toArray, List.set_cons_zero, List.set_cons_succ])
  refine wpAnyH_take (i := 11) (v := ?_) (by simp only [List.getElem?_toArray, List.getElem?_cons_succ, List.getElem?_cons_zero]; rfl) (by kernel_rfl) (by kernel_rfl) (by kernel_rfl) (by intro _ _ _ h; exact h) (Or.inl ⟨by rfl, ?_⟩) (by assumption) ?_
  rotate_left
  · (intro w' hSw; (try dsimp only at hSw); go_simp; try with_reducible rfl)
  (try simp only [Act.put, List.setIfInBounds_toArray, List.set_cons_zero, List.set_cons_succ])
  refine wpAnyH_take (i := 12) (v := ?_) (by simp only [List.getElem?_toArray, List.getElem?_cons_succ, List.getElem?_cons_zero]; rfl) (by kernel_rfl) (by kernel_rfl) (by kernel_rfl) (by intro _ _ _ h; exact h) (Or.inl ⟨by rfl, ?_⟩) (by assumption) ?_
  rotate_left
  · (intro w' hSw; (try dsimp only at hSw); go_simp; try with_reducible rfl)
  (try simp only [Act.put, List.setIfInBounds_toArray, List.set_cons_zero, List.set_cons_succ])
  refine wpAnyH_take (i := 13) (v := ?_) (by simp only [List.getElem?_toArray, List.getElem?_cons_succ, List.getElem?_cons_zero]; rfl) (by kernel_rfl) (by kernel_rfl) (by kernel_rfl) (by intro _ _ _ h; exact h) (Or.inl ⟨by rfl, ?_⟩) (by assumption) ?_
  rotate_left
  · (intro w' hSw; (try dsimp only at hSw); go_simp; try with_reducible rfl)
  (try simp only [Act.put, List.setIfInBounds_toArray, List.set_cons_zero, List.set_cons_succ])
  refine wpAnyH_take (i := 14) (v := ?_) (by simp only [List.getElem?_toArray, List.getElem?_cons_succ, List.getElem?_cons_zero]; rfl) (by kernel_rfl) (by kernel_rfl) (by kernel_rfl) (by intro _ _ _ h; exact h) (Or.inl ⟨by rfl, ?_⟩) (by assumption) ?_
  rotate_left
  · (intro w' hSw; (try dsimp only at hSw); go_simp; try with_reducible rfl)
  (try simp only [Act.put, List.setIfInBounds_toArray, List.set_cons_zero, List.set_cons_succ])
  refine wpAnyH_take (i := 15) (v := ?_) (by simp only [List.getElem?_toArray, List.getElem?_cons_succ, List.getElem?_cons_zero]; rfl) (by kernel_rfl) (by kernel_rfl) (by kernel_rfl) (by intro _ _ _ h; exact h) (Or.inl ⟨by rfl, ?_⟩) (by assumption) ?_
  rotate_left
  · (intro w' hSw; (try dsimp only at hSw); go_simp; try with_reducible rfl)
  (try simp only [Act.put, List.setIfInBounds_toArray, List.set_cons_zero, List.set_cons_succ])
  refine wpAnyH_take (i := 16) (v := ?_) (by simp only [List.getElem?_toArray, List.getElem?_cons_succ, List.getElem?_cons_zero]; rfl) (by kernel_rfl) (by kernel_rfl) (by kernel_rfl) (by intro _ _ _ h; exact h) (Or.inl ⟨by rfl, ?_⟩) (by assumption) ?_
  rotate_left
  · (intro w' hSw; (try dsimp only at hSw); go_simp; try with_reducible rfl)
  (try simp only [Act.put, List.setIfInBounds_toArray, List.set_cons_zero, List.set_cons_succ])
  refine wpAnyH_ready (rs := [0]) (by kernel_rfl) (by simp) ?_
  refine AllReadyH.cons (by simp only [List.getElem?_toArray, List.getElem?_cons_zero]; rfl) (fun K hK => ?_) AllReadyH.nil
  go_simp
  refine hK.out _ _ ?_ (fun hHeld => ?_)
  · exact g1d
  clear hK K
  (try simp only [Act.put, List.setIfInBounds_toArray, List.set_cons_zero, List.set_cons_succ])
  refine wpAnyH_ready (rs := [17]) (by kernel_rfl) (by simp) ?_
  refine AllReadyH.cons (by simp only [List.getElem?_toArray, List.getElem?_cons_succ, List.getElem?_cons_zero]; rfl) (fun K hK => ?_) AllReadyH.nil
  go_simp
  refine (plus_any r0 r1 r2 r3 s21 s22 s23 v2 hr hwin _).mono ?_
  rintro e v ⟨s30, s31, s32, s33, cy, rfl, hs, hsc, k2⟩
  have g2 := S4.below g1d k2
  have R2 := Rw.below (W := V.drew) ⟨⟨rz, rc0, rc1, rc2, rc3⟩, rf⟩ k2
  have P2 := PS.below (PS.drew P1) k2
  have E2 := belowStep (Below.drew E1) (Below.drew E1).size k2
  obtain ⟨⟨sz, sc0, sc1, sc2, sc3⟩, sf⟩ := id R2
  go_wp2_with fail
  refine hK.out _ _ ?_ (fun hHeld => ?_)
  · exact g2
  clear hK K
  (try simp only [Act.put, List.setIfInBounds_toArray, List.set_cons_zero, List.set_cons_succ])
  refine wpAnyH_take (i := 18) (v := ?_) (by simp only [List.getElem?_toArray, List.getElem?_cons_succ, List.getElem?_cons_zero]; rfl) (by kernel_rfl) (by kernel_rfl) (by kernel_rfl) (by intro _ _ _ h; exact h) (Or.inl ⟨by rfl, ?_⟩) (by assumption) ?_
  rotate_left
  · (intro w' hSw; (try dsimp only at hSw); go_simp; try with_reducible rfl)
  (try simp only [Act.put, List.setIfInBounds_toArray, List.set_cons_zero, List.set_cons_succ])
  refine wpAnyH_take (i := 19) (v := ?_) (by simp only [List.getElem?_toArray, List.getElem?_cons_succ, List.getElem?_cons_zero]; rfl) (by kernel_rfl) (by kernel_rfl) (by kernel_rfl) (by intro _ _ _ h; exact h) (Or.inl ⟨by rfl, ?_⟩) (by assumption) ?_
  rotate_left
  · (intro w' hSw; (try dsimp only at hSw); go_simp; try with_reducible rfl)
  (try simp only [Act.put, List.setIfInBounds_toArray, List.set_cons_zero, List.set_cons_succ])
  refine wpAnyH_take (i := 20) (v := ?_) (by simp only [List.getElem?_toArray, List.getElem?_cons_succ, List.getElem?_cons_zero]; rfl) (by kernel_rfl) (by kernel_rfl) (by kernel_rfl) (by intro _ _ _ h; exact h) (Or.inl ⟨by rfl, ?_⟩) (by assumption) ?_
  rotate_left
  · (intro w' hSw; (try dsimp only at hSw); go_simp; try with_reducible rfl)
  (try simp only [Act.put, List.setIfInBounds_toArray, List.set_cons_zero, List.set_cons_succ])
  refine wpAnyH_ready (rs := [21]) (by kernel_rfl) (by simp) ?_
  refine AllReadyH.cons (by simp only [List.getElem?_toArray, List.getElem?_cons_succ, List.getElem?_cons_zero]; rfl) (fun K hK => ?_) AllReadyH.nil
  go_simp
  refine hK.out _ _ ?_ (fun hHeld => ?_)
  · repeat' (first | with_reducible exact g2 | with_reducible refine S4.setCell (p := w.heap.size + 1 + 1 + 1) (k0 := 3) (k1 := 4) (k2 := 5) (k3 := 6) (y0 := s21) (y1 := s22) (y2 := s23) (y3 := v2) ?_ _ ?_ _ | (dsimp only; omega))
  clear hK K
  (try simp only [Act.put, List.setIfInBounds_toArray, List.set_cons_zero, List.set_cons_succ])
  refine wpAnyH_take (i := 22) (v := ?_) (by simp only [List.getElem?_toArray, List.getElem?_cons_succ, List.getElem?_cons_zero]; rfl) (by kernel_rfl) (by kernel_rfl) (by kernel_rfl) (by intro _ _ _ h; exact h) (Or.inl ⟨by rfl, ?_⟩) (by assumption) ?_
  rotate_left
  · (intro w' hSw; (try dsimp only at hSw); go_simp; try with_reducible rfl)
  (try simp only [Act.put, List.setIfInBounds_toArray, List.set_cons_zero, List.set_cons_succ])
  refine wpAnyH_done (by kernel_rfl) ?_ _
  clear hHeld
  go_wp2
  refine wpOf (fun W => Below w.heap.size w W ∧ PS w.heap.size a0 a1 a2 a3 s00 s10 s20 s21 s22 s23 v2 0 0 0 0 0 W ∧ Cw w4.heap.size s30 s31 s32 s33 W) ⟨?_, ?_, ?_⟩ ?_
  · go_grown
  · exact PS.over P2 zg
  · exact Cw.over R2.w
  rintro V2 ⟨E3, P3, R3⟩
  obtain ⟨hp, hpv⟩ := hru.out
  obtain ⟨hcy0, hcy1, hcv⟩ := hsc.out
  obtain ⟨v3, wv, hv3⟩ := round_val u cy (val a0 a1 a2 a3) b3 (val r0 r1 r2 r3) (val s21 s22 s23 v2) (val s30 s31 s32 s33) hpv hcv hA hb.2.2.2 (val_bd _ _ _ _ hs).1 (val_bd _ _ _ _ hwin).2 hp.1 hcy0
  clear P1 R1 E1 g1 g1d g2 R2 P2 E2 rz rc0 rc1 rc2 rc3 rf sz sc0 sc1 sc2 sc3 sf k2
  obtain ⟨⟨z0, c0, c1, c2, c3⟩, z, p0, p1, p2, p3, p4, p5, p6, p7, p8, p9, p10, p11, pf, _⟩ := id P3
  have cp := copy3 (PS.drew P3) (Cw.drew R3)
  simp only [World.setCells] at cp
  go_region
  go_wp2
  have Pn := PS.drew (PS.step3 P3 s30 s31 s32 s33 v3)
  have En : Below w.heap.size w _ := Below.drew (((((E3.setCell (p := ⟨w.heap.size + 1 + 1 + 1, 3, none⟩) (by dsimp only; omega) (.int .u64 s30)).setCell (p := ⟨w.heap.size + 1 + 1 + 1, 4, none⟩) (by dsimp only; omega) (.int .u64 s31)).setCell (p := ⟨w.heap.size + 1 + 1 + 1, 5, none⟩) (by dsimp only; omega) (.int .u64 s32)).setCell (p := ⟨w.heap.size + 1 + 1 + 1, 6, none⟩) (by dsimp only; omega) (.int .u64 s33)).setCell (p := ⟨w.heap.size + 1 + 1 + 1, 7, none⟩) (by dsimp only; omega) (.int .u64 v3))
  obtain ⟨Hs30, Hs31, Hs32, Hs33⟩ := hs
  have Hv3 := hv3.out.1
  have G3 : Hid (_ = _) := hv3.out.2
  clear P3 R3 E3 cp wv hv3 hpv hcv hp hcy0 hcy1 hsc hru hr hwin zg z p0 p1 p2 p3 p4 p5 p6 p7 p8 p9 p10 p11 pf
  generalize hW : World.drew _ = V3 at Pn En ⊢
  clear hW
  obtain ⟨_, z, p0, p1, p2, p3, p4, p5, p6, p7, p8, p9, p10, p11, pf, q0, q1, q2, q3, q4, q5, q6, q7, q8, q9, q10, q11, qf⟩ := id Pn
  clear Pn
  rw [rounds_succ]; go_wp2
  refine bodyPost_ret (v := .agg #[.int .u64 s00, .int .u64 s10, .int .u64 s20, .int .u64 s30, .int .u64 s31, .int .u64 s32, .int .u64 s33, .int .u64 v3, .int .u64 0, .int .u64 0, .int .u64 0, .int .u64 0]) (by simp [results, Try.results55, go_sem, *]) rfl ⟨s00, s10, s20, s30, s31, s32, s33, v3, 0, 0, 0, 0, rfl, ⟨Hs00, Hs10, Hs20, Hs30, Hs31, Hs32, Hs33, Hv3, ho, ho, ho, ho⟩, ?_, ?_⟩
  · exact prod_val _ _ _ _ _ s00 s01 s02 s03 s10 s11 s12 s13 s20 s21 s22 s23 s30 s31 s32 s33 v0 v1 v2 v3 G0.out G1.out G2.out G3.out
  · go_grown
end Go.Proofs.Ytgapcjdgakamoaa
