/- What the reference's carry and Add do at this translation: for all words, whatever the memory. -/
import Derived.Test.YtgapcjdgakamoaaW18
import Derived.Deep.LoopGhost
namespace Go.Proofs.Ytgapcjdgakamoaa
open Go.RowKit Go.Shelf Go.Sort

/-- The lowest parts of a number. -/
def low (k : Nat) (a0 a1 a2 a3 : Int) : Int := match k with | 0 => 0 | 1 => a0 | 2 => val a0 a1 0 0 | 3 => val a0 a1 a2 0 | _ => val a0 a1 a2 a3
/-- A sum of two numbers, so far: the parts of the sum, and what is carried. -/
def SumTo (k : Nat) (a0 a1 a2 a3 b0 b1 b2 b3 u0 u1 u2 u3 c : Int) : Prop := (c = 0 ∨ c = 1) ∧ Ws u0 u1 u2 u3 ∧ match k with
  | 0 => u0 = 0 ∧ u1 = 0 ∧ u2 = 0 ∧ u3 = 0 ∧ c = 0
  | 1 => u1 = 0 ∧ u2 = 0 ∧ u3 = 0 ∧ u0 + c * 18446744073709551616 = a0 + b0
  | 2 => u2 = 0 ∧ u3 = 0 ∧ val u0 u1 0 0 + c * 340282366920938463463374607431768211456 = val a0 a1 0 0 + val b0 b1 0 0
  | 3 => u3 = 0 ∧ val u0 u1 u2 0 + c * 6277101735386680763835789423207666416102355444464034512896 = val a0 a1 a2 0 + val b0 b1 b2 0
  | _ => val u0 u1 u2 u3 + c * 115792089237316195423570985008687907853269984665640564039457584007913129639936 = val a0 a1 a2 a3 + val b0 b1 b2 b3

/-- One part's sum: the part, and what is carried on. -/
def Part (x y c s t : Int) : Prop := s = (x + y) % 18446744073709551616 ∧ t = (s + c) % 18446744073709551616

theorem part_yes (x y c s t : Int) (hx : Pt x) (hy : Pt y) (hc : c = 0 ∨ c = 1) (h : Part x y c s t) (hs : s < x ∨ t < s) : Pt t ∧ t + 18446744073709551616 = x + y + c := by
  obtain ⟨rfl, rfl⟩ := h
  obtain ⟨_, _⟩ := hx
  obtain ⟨_, _⟩ := hy
  refine ⟨⟨?_, ?_⟩, ?_⟩ <;> omega
theorem part_no (x y c s t : Int) (hx : Pt x) (hy : Pt y) (hc : c = 0 ∨ c = 1) (h : Part x y c s t) (h1 : ¬ s < x) (h2 : ¬ t < s) : Pt t ∧ t = x + y + c := by
  obtain ⟨rfl, rfl⟩ := h
  obtain ⟨_, _⟩ := hx
  obtain ⟨_, _⟩ := hy
  refine ⟨⟨?_, ?_⟩, ?_⟩ <;> omega

theorem sum_step0 (a0 a1 a2 a3 b0 b1 b2 b3 u0 u1 u2 u3 x t c : Int) (h : SumTo 0 a0 a1 a2 a3 b0 b1 b2 b3 u0 u1 u2 u3 x) (ht : Pt t) (hc : c = 0 ∨ c = 1) (e : t + c * 18446744073709551616 = a0 + b0 + x) : SumTo 1 a0 a1 a2 a3 b0 b1 b2 b3 t u1 u2 u3 c := by
  obtain ⟨_, ⟨h0, h1, h2, h3⟩, h⟩ := h
  refine ⟨hc, ⟨ht, h1, h2, h3⟩, ?_⟩
  simp only at h ⊢; omega
theorem Rw.put0 {n : Nat} {u0 u1 u2 u3 : Int} {W : World} (h : Rw n u0 u1 u2 u3 W) (t : Int) : Rw n t u1 u2 u3 (W.setCell ⟨n, 0, none⟩ (.int .u64 t)) := by
  obtain ⟨⟨z, h0, h1, h2, h3⟩, hf⟩ := h
  exact ⟨⟨by simp [go_sem, *], by simp [go_sem, *], by simp [go_sem, *], by simp [go_sem, *], by simp [go_sem, *]⟩, fun o => by simp [go_sem, *]⟩
theorem sum_step1 (a0 a1 a2 a3 b0 b1 b2 b3 u0 u1 u2 u3 x t c : Int) (h : SumTo 1 a0 a1 a2 a3 b0 b1 b2 b3 u0 u1 u2 u3 x) (ht : Pt t) (hc : c = 0 ∨ c = 1) (e : t + c * 18446744073709551616 = a1 + b1 + x) : SumTo 2 a0 a1 a2 a3 b0 b1 b2 b3 u0 t u2 u3 c := by
  obtain ⟨_, ⟨h0, h1, h2, h3⟩, h⟩ := h
  refine ⟨hc, ⟨h0, ht, h2, h3⟩, ?_⟩
  simp only [val] at h ⊢; omega
theorem Rw.put1 {n : Nat} {u0 u1 u2 u3 : Int} {W : World} (h : Rw n u0 u1 u2 u3 W) (t : Int) : Rw n u0 t u2 u3 (W.setCell ⟨n, 1, none⟩ (.int .u64 t)) := by
  obtain ⟨⟨z, h0, h1, h2, h3⟩, hf⟩ := h
  exact ⟨⟨by simp [go_sem, *], by simp [go_sem, *], by simp [go_sem, *], by simp [go_sem, *], by simp [go_sem, *]⟩, fun o => by simp [go_sem, *]⟩
theorem sum_step2 (a0 a1 a2 a3 b0 b1 b2 b3 u0 u1 u2 u3 x t c : Int) (h : SumTo 2 a0 a1 a2 a3 b0 b1 b2 b3 u0 u1 u2 u3 x) (ht : Pt t) (hc : c = 0 ∨ c = 1) (e : t + c * 18446744073709551616 = a2 + b2 + x) : SumTo 3 a0 a1 a2 a3 b0 b1 b2 b3 u0 u1 t u3 c := by
  obtain ⟨_, ⟨h0, h1, h2, h3⟩, h⟩ := h
  refine ⟨hc, ⟨h0, h1, ht, h3⟩, ?_⟩
  simp only [val] at h ⊢; omega
theorem Rw.put2 {n : Nat} {u0 u1 u2 u3 : Int} {W : World} (h : Rw n u0 u1 u2 u3 W) (t : Int) : Rw n u0 u1 t u3 (W.setCell ⟨n, 2, none⟩ (.int .u64 t)) := by
  obtain ⟨⟨z, h0, h1, h2, h3⟩, hf⟩ := h
  exact ⟨⟨by simp [go_sem, *], by simp [go_sem, *], by simp [go_sem, *], by simp [go_sem, *], by simp [go_sem, *]⟩, fun o => by simp [go_sem, *]⟩
theorem sum_step3 (a0 a1 a2 a3 b0 b1 b2 b3 u0 u1 u2 u3 x t c : Int) (h : SumTo 3 a0 a1 a2 a3 b0 b1 b2 b3 u0 u1 u2 u3 x) (ht : Pt t) (hc : c = 0 ∨ c = 1) (e : t + c * 18446744073709551616 = a3 + b3 + x) : SumTo 4 a0 a1 a2 a3 b0 b1 b2 b3 u0 u1 u2 t c := by
  obtain ⟨_, ⟨h0, h1, h2, h3⟩, h⟩ := h
  refine ⟨hc, ⟨h0, h1, h2, ht⟩, ?_⟩
  simp only [val] at h ⊢; omega
theorem Rw.put3 {n : Nat} {u0 u1 u2 u3 : Int} {W : World} (h : Rw n u0 u1 u2 u3 W) (t : Int) : Rw n u0 u1 u2 t (W.setCell ⟨n, 3, none⟩ (.int .u64 t)) := by
  obtain ⟨⟨z, h0, h1, h2, h3⟩, hf⟩ := h
  exact ⟨⟨by simp [go_sem, *], by simp [go_sem, *], by simp [go_sem, *], by simp [go_sem, *], by simp [go_sem, *]⟩, fun o => by simp [go_sem, *]⟩
theorem Rw.drew {n : Nat} {u0 u1 u2 u3 : Int} {W : World} (h : Rw n u0 u1 u2 u3 W) : Rw n u0 u1 u2 u3 W.drew := ⟨h.w.drew, h.f⟩
theorem Rw.setCell {n : Nat} {u0 u1 u2 u3 : Int} {W : World} (h : Rw n u0 u1 u2 u3 W) (p : Addr) (hp : n + 1 ≤ p.block) (v : Value) : Rw n u0 u1 u2 u3 (W.setCell p v) :=
  ⟨h.w.setCell p hp v, fun o => (((Below.refl (n + 1) W).setCell hp v).frozen (p := ⟨n, o, none⟩) (Nat.lt_succ_self n)).trans (h.f o)⟩

set_option maxHeartbeats 2000000 in
theorem rcarry_any (a0 a1 a2 a3 b0 b1 b2 b3 : Int) (ha : Ws a0 a1 a2 a3) (hb : Ws b0 b1 b2 b3) (w : World) :
    Calls Try.prog 51 #[.agg #[.int .u64 a0, .int .u64 a1, .int .u64 a2, .int .u64 a3], .agg #[.int .u64 b0, .int .u64 b1, .int .u64 b2, .int .u64 b3]] w fun e w' =>
      ∃ s0 s1 s2 s3 : Int, ∃ o : Bool, e = .returned (.tuple #[.agg #[.int .u64 s0, .int .u64 s1, .int .u64 s2, .int .u64 s3], .bool o]) ∧ Ws s0 s1 s2 s3 ∧ Hid (val s0 s1 s2 s3 + (if o then 115792089237316195423570985008687907853269984665640564039457584007913129639936 else 0) = val a0 a1 a2 a3 + val b0 b1 b2 b3) ∧ Below w.heap.size w w' := by
  have ho : Pt 0 := ⟨by decide, by decide⟩
  go_enter Try.func51, Try.ntmps51
  go_wp2
  go_loopg [7, 8] 4 (fun gk c i wr => ∃ k : Nat, ∃ u0 u1 u2 u3 x : Int, k + gk = 4 ∧ c = .int .u64 x ∧ i = .int .i64 k ∧ Below w.heap.size w wr ∧ Cw w.heap.size a0 a1 a2 a3 wr ∧ Cw (w.heap.size + 1) b0 b1 b2 b3 wr ∧ Rw (w.heap.size + 1 + 1) 0 0 0 0 wr ∧ Rw (w.heap.size + 1 + 1 + 1) u0 u1 u2 u3 wr ∧ Hid (SumTo k a0 a1 a2 a3 b0 b1 b2 b3 u0 u1 u2 u3 x))
  case atStart =>
    refine ⟨0, 0, 0, 0, 0, 0, rfl, rfl, rfl, by go_grown, ?_, ?_, ?_, ?_, ⟨Or.inl rfl, ⟨ho, ho, ho, ho⟩, rfl, rfl, rfl, rfl, rfl⟩⟩
    · repeat' (first | exact Cw.new _ _ _ _ _ _ | apply Cw.alloc)
    · exact ⟨by simp, by simp [go_sem], by simp [go_sem], by simp [go_sem], by simp [go_sem]⟩
    · exact ⟨⟨by simp, by simp [go_sem], by simp [go_sem], by simp [go_sem], by simp [go_sem]⟩, fun o => by simp [go_sem]⟩
    · exact ⟨⟨by simp, by simp [go_sem], by simp [go_sem], by simp [go_sem], by simp [go_sem]⟩, fun o => by simp [go_sem]⟩
  case round =>
    obtain ⟨k, u0, u1, u2, u3, x, hk, rfl, rfl, EW, CA, CB, CZ, CU, hH⟩ := hrel
    obtain ⟨za, ca0, ca1, ca2, ca3⟩ := id CA
    obtain ⟨zb, cb0, cb1, cb2, cb3⟩ := id CB
    obtain ⟨⟨zz, cz0, cz1, cz2, cz3⟩, zf⟩ := id CZ
    obtain ⟨⟨zu, cu0, cu1, cu2, cu3⟩, uf⟩ := id CU
    have hk5 : k = 4 ∨ k = 0 ∨ k = 1 ∨ k = 2 ∨ k = 3 := by omega
    rcases hk5 with rfl | rfl | rfl | rfl | rfl
    · go_wp2
      refine bodyPost_ret (v := .tuple #[.agg #[.int .u64 u0, .int .u64 u1, .int .u64 u2, .int .u64 u3], .bool (x == 1)]) (by simp [results, Try.results51, go_sem, *]) rfl ⟨u0, u1, u2, u3, _, rfl, hH.out.2.1, ?_, ?_⟩
      · show _ = _
        have h := hH.out.2.2
        have h' : val u0 u1 u2 u3 + x * 115792089237316195423570985008687907853269984665640564039457584007913129639936 = val a0 a1 a2 a3 + val b0 b1 b2 b3 := h
        rcases hH.out.1 with rfl | rfl
        · simpa using h'
        · simpa using h'
      · go_grown
    · obtain ⟨s, hs⟩ : ∃ s, IntKind.u64.wrap (a0 + b0) = s := ⟨_, rfl⟩
      obtain ⟨t, ht⟩ : ∃ t, IntKind.u64.wrap (s + x) = t := ⟨_, rfl⟩
      have hP : Hid (Part a0 b0 x s t) := ⟨by rw [← hs, IntKind.wrap_u64], by rw [← ht, IntKind.wrap_u64]⟩
      by_cases h1 : s < a0
      · have q1 : (decide (s < a0)) = true := by simpa using h1
        go_wp2
        go_region
        go_wp2
        obtain ⟨ptt, e⟩ := part_yes a0 b0 x s t ha.1 hb.1 hH.out.1 hP.out (Or.inl h1)
        go_roundg 3
        case measure => omega
        case rel =>
          exact ⟨1, t, u1, u2, u3, 1, by omega, rfl, rfl, by go_grown, (CA.setCell _ (by dsimp only; omega) _).drew, (CB.setCell _ (by dsimp only; omega) _).drew, (CZ.setCell _ (by dsimp only; omega) _).drew, (CU.put0 t).drew, sum_step0 a0 a1 a2 a3 b0 b1 b2 b3 u0 u1 u2 u3 x t 1 hH.out ptt (by decide) (by omega)⟩
      · by_cases h2 : t < s
        · go_wp2
          go_region
          go_wp2
          obtain ⟨ptt, e⟩ := part_yes a0 b0 x s t ha.1 hb.1 hH.out.1 hP.out (Or.inr h2)
          go_roundg 3
          case measure => omega
          case rel =>
            exact ⟨1, t, u1, u2, u3, 1, by omega, rfl, rfl, by go_grown, (CA.setCell _ (by dsimp only; omega) _).drew, (CB.setCell _ (by dsimp only; omega) _).drew, (CZ.setCell _ (by dsimp only; omega) _).drew, (CU.put0 t).drew, sum_step0 a0 a1 a2 a3 b0 b1 b2 b3 u0 u1 u2 u3 x t 1 hH.out ptt (by decide) (by omega)⟩
        · go_wp2
          go_region
          go_wp2
          obtain ⟨ptt, e⟩ := part_no a0 b0 x s t ha.1 hb.1 hH.out.1 hP.out (by omega) (by omega)
          go_roundg 3
          case measure => omega
          case rel =>
            exact ⟨1, t, u1, u2, u3, 0, by omega, rfl, rfl, by go_grown, (CA.setCell _ (by dsimp only; omega) _).drew, (CB.setCell _ (by dsimp only; omega) _).drew, (CZ.setCell _ (by dsimp only; omega) _).drew, (CU.put0 t).drew, sum_step0 a0 a1 a2 a3 b0 b1 b2 b3 u0 u1 u2 u3 x t 0 hH.out ptt (by decide) (by omega)⟩
    · obtain ⟨s, hs⟩ : ∃ s, IntKind.u64.wrap (a1 + b1) = s := ⟨_, rfl⟩
      obtain ⟨t, ht⟩ : ∃ t, IntKind.u64.wrap (s + x) = t := ⟨_, rfl⟩
      have hP : Hid (Part a1 b1 x s t) := ⟨by rw [← hs, IntKind.wrap_u64], by rw [← ht, IntKind.wrap_u64]⟩
      by_cases h1 : s < a1
      · have q1 : (decide (s < a1)) = true := by simpa using h1
        go_wp2
        go_region
        go_wp2
        obtain ⟨ptt, e⟩ := part_yes a1 b1 x s t ha.2.1 hb.2.1 hH.out.1 hP.out (Or.inl h1)
        go_roundg 2
        case measure => omega
        case rel =>
          exact ⟨2, u0, t, u2, u3, 1, by omega, rfl, rfl, by go_grown, (CA.setCell _ (by dsimp only; omega) _).drew, (CB.setCell _ (by dsimp only; omega) _).drew, (CZ.setCell _ (by dsimp only; omega) _).drew, (CU.put1 t).drew, sum_step1 a0 a1 a2 a3 b0 b1 b2 b3 u0 u1 u2 u3 x t 1 hH.out ptt (by decide) (by omega)⟩
      · by_cases h2 : t < s
        · go_wp2
          go_region
          go_wp2
          obtain ⟨ptt, e⟩ := part_yes a1 b1 x s t ha.2.1 hb.2.1 hH.out.1 hP.out (Or.inr h2)
          go_roundg 2
          case measure => omega
          case rel =>
            exact ⟨2, u0, t, u2, u3, 1, by omega, rfl, rfl, by go_grown, (CA.setCell _ (by dsimp only; omega) _).drew, (CB.setCell _ (by dsimp only; omega) _).drew, (CZ.setCell _ (by dsimp only; omega) _).drew, (CU.put1 t).drew, sum_step1 a0 a1 a2 a3 b0 b1 b2 b3 u0 u1 u2 u3 x t 1 hH.out ptt (by decide) (by omega)⟩
        · go_wp2
          go_region
          go_wp2
          obtain ⟨ptt, e⟩ := part_no a1 b1 x s t ha.2.1 hb.2.1 hH.out.1 hP.out (by omega) (by omega)
          go_roundg 2
          case measure => omega
          case rel =>
            exact ⟨2, u0, t, u2, u3, 0, by omega, rfl, rfl, by go_grown, (CA.setCell _ (by dsimp only; omega) _).drew, (CB.setCell _ (by dsimp only; omega) _).drew, (CZ.setCell _ (by dsimp only; omega) _).drew, (CU.put1 t).drew, sum_step1 a0 a1 a2 a3 b0 b1 b2 b3 u0 u1 u2 u3 x t 0 hH.out ptt (by decide) (by omega)⟩
    · obtain ⟨s, hs⟩ : ∃ s, IntKind.u64.wrap (a2 + b2) = s := ⟨_, rfl⟩
      obtain ⟨t, ht⟩ : ∃ t, IntKind.u64.wrap (s + x) = t := ⟨_, rfl⟩
      have hP : Hid (Part a2 b2 x s t) := ⟨by rw [← hs, IntKind.wrap_u64], by rw [← ht, IntKind.wrap_u64]⟩
      by_cases h1 : s < a2
      · have q1 : (decide (s < a2)) = true := by simpa using h1
        go_wp2
        go_region
        go_wp2
        obtain ⟨ptt, e⟩ := part_yes a2 b2 x s t ha.2.2.1 hb.2.2.1 hH.out.1 hP.out (Or.inl h1)
        go_roundg 1
        case measure => omega
        case rel =>
          exact ⟨3, u0, u1, t, u3, 1, by omega, rfl, rfl, by go_grown, (CA.setCell _ (by dsimp only; omega) _).drew, (CB.setCell _ (by dsimp only; omega) _).drew, (CZ.setCell _ (by dsimp only; omega) _).drew, (CU.put2 t).drew, sum_step2 a0 a1 a2 a3 b0 b1 b2 b3 u0 u1 u2 u3 x t 1 hH.out ptt (by decide) (by omega)⟩
      · by_cases h2 : t < s
        · go_wp2
          go_region
          go_wp2
          obtain ⟨ptt, e⟩ := part_yes a2 b2 x s t ha.2.2.1 hb.2.2.1 hH.out.1 hP.out (Or.inr h2)
          go_roundg 1
          case measure => omega
          case rel =>
            exact ⟨3, u0, u1, t, u3, 1, by omega, rfl, rfl, by go_grown, (CA.setCell _ (by dsimp only; omega) _).drew, (CB.setCell _ (by dsimp only; omega) _).drew, (CZ.setCell _ (by dsimp only; omega) _).drew, (CU.put2 t).drew, sum_step2 a0 a1 a2 a3 b0 b1 b2 b3 u0 u1 u2 u3 x t 1 hH.out ptt (by decide) (by omega)⟩
        · go_wp2
          go_region
          go_wp2
          obtain ⟨ptt, e⟩ := part_no a2 b2 x s t ha.2.2.1 hb.2.2.1 hH.out.1 hP.out (by omega) (by omega)
          go_roundg 1
          case measure => omega
          case rel =>
            exact ⟨3, u0, u1, t, u3, 0, by omega, rfl, rfl, by go_grown, (CA.setCell _ (by dsimp only; omega) _).drew, (CB.setCell _ (by dsimp only; omega) _).drew, (CZ.setCell _ (by dsimp only; omega) _).drew, (CU.put2 t).drew, sum_step2 a0 a1 a2 a3 b0 b1 b2 b3 u0 u1 u2 u3 x t 0 hH.out ptt (by decide) (by omega)⟩
    · obtain ⟨s, hs⟩ : ∃ s, IntKind.u64.wrap (a3 + b3) = s := ⟨_, rfl⟩
      obtain ⟨t, ht⟩ : ∃ t, IntKind.u64.wrap (s + x) = t := ⟨_, rfl⟩
      have hP : Hid (Part a3 b3 x s t) := ⟨by rw [← hs, IntKind.wrap_u64], by rw [← ht, IntKind.wrap_u64]⟩
      by_cases h1 : s < a3
      · have q1 : (decide (s < a3)) = true := by simpa using h1
        go_wp2
        go_region
        go_wp2
        obtain ⟨ptt, e⟩ := part_yes a3 b3 x s t ha.2.2.2 hb.2.2.2 hH.out.1 hP.out (Or.inl h1)
        go_roundg 0
        case measure => omega
        case rel =>
          exact ⟨4, u0, u1, u2, t, 1, by omega, rfl, rfl, by go_grown, (CA.setCell _ (by dsimp only; omega) _).drew, (CB.setCell _ (by dsimp only; omega) _).drew, (CZ.setCell _ (by dsimp only; omega) _).drew, (CU.put3 t).drew, sum_step3 a0 a1 a2 a3 b0 b1 b2 b3 u0 u1 u2 u3 x t 1 hH.out ptt (by decide) (by omega)⟩
      · by_cases h2 : t < s
        · go_wp2
          go_region
          go_wp2
          obtain ⟨ptt, e⟩ := part_yes a3 b3 x s t ha.2.2.2 hb.2.2.2 hH.out.1 hP.out (Or.inr h2)
          go_roundg 0
          case measure => omega
          case rel =>
            exact ⟨4, u0, u1, u2, t, 1, by omega, rfl, rfl, by go_grown, (CA.setCell _ (by dsimp only; omega) _).drew, (CB.setCell _ (by dsimp only; omega) _).drew, (CZ.setCell _ (by dsimp only; omega) _).drew, (CU.put3 t).drew, sum_step3 a0 a1 a2 a3 b0 b1 b2 b3 u0 u1 u2 u3 x t 1 hH.out ptt (by decide) (by omega)⟩
        · go_wp2
          go_region
          go_wp2
          obtain ⟨ptt, e⟩ := part_no a3 b3 x s t ha.2.2.2 hb.2.2.2 hH.out.1 hP.out (by omega) (by omega)
          go_roundg 0
          case measure => omega
          case rel =>
            exact ⟨4, u0, u1, u2, t, 0, by omega, rfl, rfl, by go_grown, (CA.setCell _ (by dsimp only; omega) _).drew, (CB.setCell _ (by dsimp only; omega) _).drew, (CZ.setCell _ (by dsimp only; omega) _).drew, (CU.put3 t).drew, sum_step3 a0 a1 a2 a3 b0 b1 b2 b3 u0 u1 u2 u3 x t 0 hH.out ptt (by decide) (by omega)⟩
end Go.Proofs.Ytgapcjdgakamoaa
