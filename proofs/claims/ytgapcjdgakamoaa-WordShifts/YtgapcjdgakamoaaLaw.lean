/- Words that lie in memory while a law calls, and contracts that give one value. No condition. -/
import Derived.Test.YtgapcjdgakamoaaW14
import Derived.Lib.QuietBelow
namespace Go.Proofs.Ytgapcjdgakamoaa
open Go.RowKit Go.Shelf Go.Sort

/-- A word lies in block n. -/
structure Cw (n : Nat) (a0 a1 a2 a3 : Int) (W : World) : Prop where
  z : n < W.heap.size
  c0 : W.cell? ⟨n, 0, none⟩ = some (.int .u64 a0)
  c1 : W.cell? ⟨n, 1, none⟩ = some (.int .u64 a1)
  c2 : W.cell? ⟨n, 2, none⟩ = some (.int .u64 a2)
  c3 : W.cell? ⟨n, 3, none⟩ = some (.int .u64 a3)

section
variable {n : Nat} {a0 a1 a2 a3 : Int} {W W' : World}
theorem Cw.keep (h : Cw n a0 a1 a2 a3 W) (hb : Below (n + 1) W W') : Cw n a0 a1 a2 a3 W' :=
  ⟨Nat.lt_of_lt_of_le h.z hb.size, (hb.cell (p := ⟨n, 0, none⟩) (Nat.lt_succ_self n)).trans h.c0, (hb.cell (p := ⟨n, 1, none⟩) (Nat.lt_succ_self n)).trans h.c1, (hb.cell (p := ⟨n, 2, none⟩) (Nat.lt_succ_self n)).trans h.c2, (hb.cell (p := ⟨n, 3, none⟩) (Nat.lt_succ_self n)).trans h.c3⟩
theorem Cw.below (h : Cw n a0 a1 a2 a3 W) (hb : Below W.heap.size W W') : Cw n a0 a1 a2 a3 W' := h.keep (hb.mono h.z)
theorem Cw.alloc (h : Cw n a0 a1 a2 a3 W) (o : Obj) : Cw n a0 a1 a2 a3 (W.alloc o) := h.keep ((Below.refl _ W).alloc h.z o)
theorem Cw.drew (h : Cw n a0 a1 a2 a3 W) : Cw n a0 a1 a2 a3 W.drew := ⟨h.z, h.c0, h.c1, h.c2, h.c3⟩
theorem Cw.new (W : World) (a0 a1 a2 a3 : Int) (t : TypeId) : Cw W.heap.size a0 a1 a2 a3 (W.alloc (.cells #[.int .u64 a0, .int .u64 a1, .int .u64 a2, .int .u64 a3] t)) :=
  ⟨by simp, by simp [go_sem], by simp [go_sem], by simp [go_sem], by simp [go_sem]⟩
theorem Cw.setCell (h : Cw n a0 a1 a2 a3 W) (p : Addr) (hp : n + 1 ≤ p.block) (v : Value) : Cw n a0 a1 a2 a3 (W.setCell p v) := h.keep ((Below.refl _ W).setCell hp v)
end

/-- What a memory keeps is enough to go on. -/
theorem wpOf {P : Program} {c : Code} {Q : Exit → Act → World → Prop} {a : Act} {W : World} (S : World → Prop) (hS : S W) (h : ∀ W', S W' → c.wp P Q a W') : c.wp P Q a W := h W hS

theorem parts_of (X : Int) (hX : 0 ≤ X ∧ X < 115792089237316195423570985008687907853269984665640564039457584007913129639936) : ∃ r0 r1 r2 r3 : Int, Ws r0 r1 r2 r3 ∧ val r0 r1 r2 r3 = X := by
  refine ⟨X % 18446744073709551616, X / 18446744073709551616 % 18446744073709551616, X / 340282366920938463463374607431768211456 % 18446744073709551616, X / 6277101735386680763835789423207666416102355444464034512896, ⟨⟨?_, ?_⟩, ⟨?_, ?_⟩, ⟨?_, ?_⟩, ⟨?_, ?_⟩⟩, ?_⟩
  all_goals first | omega | (unfold val; omega)

/-- A contract that tells the number gives one word. -/
theorem exact4 {f : Nat} {args : Array Value} {X : Int} (hX : 0 ≤ X ∧ X < 115792089237316195423570985008687907853269984665640564039457584007913129639936)
    (h : ∀ W, Calls Try.prog f args W fun e w' => ∃ r0 r1 r2 r3 : Int, e = .returned (.agg #[.int .u64 r0, .int .u64 r1, .int .u64 r2, .int .u64 r3]) ∧ Ws r0 r1 r2 r3 ∧ Hid (val r0 r1 r2 r3 = X) ∧ Below W.heap.size W w') :
    ∃ r0 r1 r2 r3 : Int, Ws r0 r1 r2 r3 ∧ Hid (val r0 r1 r2 r3 = X) ∧ ∀ W, Calls Try.prog f args W fun e w' => e = .returned (.agg #[.int .u64 r0, .int .u64 r1, .int .u64 r2, .int .u64 r3]) ∧ Below W.heap.size W w' := by
  obtain ⟨r0, r1, r2, r3, hr, hv⟩ := parts_of X hX
  refine ⟨r0, r1, r2, r3, hr, hv, fun W => (h W).mono ?_⟩
  rintro e w' ⟨s0, s1, s2, s3, rfl, hs, hsv, hb⟩
  obtain ⟨rfl, rfl, rfl, rfl⟩ := val_inj _ _ _ _ _ _ _ _ hs hr (by rw [hsv.out, hv])
  exact ⟨rfl, hb⟩

/-- A contract in every memory of the class that a drawn statement goes through. -/
theorem inClass {f : Nat} {args : Array Value} {v : Value} {w : World} (h : ∀ W, Calls Try.prog f args W fun e w' => e = .returned v ∧ Below W.heap.size W w') :
    ∀ d os, Calls Try.prog f args (grow (redrawn w d) os) fun e w'' => e = .returned v ∧ ∃ p : Regrown, w'' = grow (redrawn w p.d) p.os := fun _ _ => Calls.regrown_of (h _)

theorem emod_bd (x : Int) : 0 ≤ x % 115792089237316195423570985008687907853269984665640564039457584007913129639936 ∧ x % 115792089237316195423570985008687907853269984665640564039457584007913129639936 < 115792089237316195423570985008687907853269984665640564039457584007913129639936 := by omega

/-- Whether two words are the same. -/
theorem eq_word (a0 a1 a2 a3 b0 b1 b2 b3 : Int) (ha : Ws a0 a1 a2 a3) (hb : Ws b0 b1 b2 b3) (w : World) : (Op.equalIn 10000 24 (.agg #[.int .u64 a0, .int .u64 a1, .int .u64 a2, .int .u64 a3]) (.agg #[.int .u64 b0, .int .u64 b1, .int .u64 b2, .int .u64 b3])).run Try.prog w = .ok (decide (val a0 a1 a2 a3 = val b0 b1 b2 b3)) w := by
  rw [eq4]
  congr 1
  rw [Bool.eq_iff_iff]; simp only [decide_eq_true_eq]
  exact ⟨fun h => by obtain ⟨rfl, rfl, rfl, rfl⟩ := h; rfl, fun h => val_inj _ _ _ _ _ _ _ _ ha hb h⟩
theorem eq_word_yes (a0 a1 a2 a3 b0 b1 b2 b3 : Int) (ha : Ws a0 a1 a2 a3) (hb : Ws b0 b1 b2 b3) (h : val a0 a1 a2 a3 = val b0 b1 b2 b3) (w : World) : (Op.equalIn 10000 24 (.agg #[.int .u64 a0, .int .u64 a1, .int .u64 a2, .int .u64 a3]) (.agg #[.int .u64 b0, .int .u64 b1, .int .u64 b2, .int .u64 b3])).run Try.prog w = .ok true w := by
  rw [eq_word a0 a1 a2 a3 b0 b1 b2 b3 ha hb, decide_eq_true h]
theorem eq_word_no (a0 a1 a2 a3 b0 b1 b2 b3 : Int) (ha : Ws a0 a1 a2 a3) (hb : Ws b0 b1 b2 b3) (h : val a0 a1 a2 a3 ≠ val b0 b1 b2 b3) (w : World) : (Op.equalIn 10000 24 (.agg #[.int .u64 a0, .int .u64 a1, .int .u64 a2, .int .u64 a3]) (.agg #[.int .u64 b0, .int .u64 b1, .int .u64 b2, .int .u64 b3])).run Try.prog w = .ok false w := by
  rw [eq_word a0 a1 a2 a3 b0 b1 b2 b3 ha hb, decide_eq_false h]
end Go.Proofs.Ytgapcjdgakamoaa
