/- What Shl and Shr do at this translation: for all words, whatever the memory. -/
import Derived.Test.YtgapcjdgakamoaaLaw
namespace Go.Proofs.Ytgapcjdgakamoaa
open Go.RowKit Go.Shelf Go.Sort

/-- A number shifted up, in 256 bits. -/
def up (k x : Int) : Int := if k < 256 then x * 2 ^ k.toNat % 115792089237316195423570985008687907853269984665640564039457584007913129639936 else 0
/-- A number shifted down. -/
def dn (k x : Int) : Int := if k < 256 then x / 2 ^ k.toNat else 0

theorem dn_bd (k x : Int) (hx : 0 ≤ x ∧ x < 115792089237316195423570985008687907853269984665640564039457584007913129639936) : 0 ≤ dn k x ∧ dn k x < 115792089237316195423570985008687907853269984665640564039457584007913129639936 := by
  unfold dn
  split
  · have p := pw_pos k.toNat
    exact ⟨Int.ediv_nonneg hx.1 (Int.le_of_lt p), Int.lt_of_le_of_lt (Int.ediv_le_self _ hx.1) hx.2⟩
  · decide
theorem up_bd (k x : Int) : 0 ≤ up k x ∧ up k x < 115792089237316195423570985008687907853269984665640564039457584007913129639936 := by
  unfold up
  split
  · exact emod_bd _
  · decide

theorem small_word (n0 n1 n2 n3 : Int) (hn : Ws n0 n1 n2 n3) (h : val n0 n1 n2 n3 < 256) : n1 = 0 ∧ n2 = 0 ∧ n3 = 0 ∧ n0 < 256 ∧ val n0 n1 n2 n3 = n0 := by
  obtain ⟨⟨_, _⟩, ⟨_, _⟩, ⟨_, _⟩, ⟨_, _⟩⟩ := hn
  unfold val at *
  omega

/-- Two words that lie in blocks n and n + 1. -/
abbrev SE (n : Nat) (a0 a1 a2 a3 b0 b1 b2 b3 : Int) (W : World) : Prop := n + 2 < W.heap.size ∧ W.cell? ⟨n, 0, none⟩ = some (.int .u64 a0) ∧ W.cell? ⟨n, 1, none⟩ = some (.int .u64 a1) ∧ W.cell? ⟨n, 2, none⟩ = some (.int .u64 a2) ∧ W.cell? ⟨n, 3, none⟩ = some (.int .u64 a3) ∧ W.cell? ⟨n + 1, 0, none⟩ = some (.int .u64 b0) ∧ W.cell? ⟨n + 1, 1, none⟩ = some (.int .u64 b1) ∧ W.cell? ⟨n + 1, 2, none⟩ = some (.int .u64 b2) ∧ W.cell? ⟨n + 1, 3, none⟩ = some (.int .u64 b3)

section
variable {n : Nat} {a0 a1 a2 a3 b0 b1 b2 b3 : Int} {W : World}
theorem SD.two (h : SD n a0 a1 a2 a3 b0 b1 b2 b3 W) : SE n a0 a1 a2 a3 b0 b1 b2 b3 W := by
  obtain ⟨z, h0, h1, h2, h3, h4, h5, h6, h7, _⟩ := h
  exact ⟨z, h0, h1, h2, h3, h4, h5, h6, h7⟩
theorem SE.setCell (h : SE n a0 a1 a2 a3 b0 b1 b2 b3 W) (p : Addr) (hp : n + 2 ≤ p.block) (v : Value) : SE n a0 a1 a2 a3 b0 b1 b2 b3 (W.setCell p v) := by
  obtain ⟨z, h0, h1, h2, h3, h4, h5, h6, h7⟩ := h
  have hb := (Below.refl (n + 2) W).setCell hp v
  exact ⟨Nat.lt_of_lt_of_le z hb.size, (hb.cell (p := ⟨n, 0, none⟩) (by dsimp only; omega)).trans h0, (hb.cell (p := ⟨n, 1, none⟩) (by dsimp only; omega)).trans h1, (hb.cell (p := ⟨n, 2, none⟩) (by dsimp only; omega)).trans h2, (hb.cell (p := ⟨n, 3, none⟩) (by dsimp only; omega)).trans h3, (hb.cell (p := ⟨n + 1, 0, none⟩) (by dsimp only; omega)).trans h4, (hb.cell (p := ⟨n + 1, 1, none⟩) (by dsimp only; omega)).trans h5, (hb.cell (p := ⟨n + 1, 2, none⟩) (by dsimp only; omega)).trans h6, (hb.cell (p := ⟨n + 1, 3, none⟩) (by dsimp only; omega)).trans h7⟩
end

set_option maxHeartbeats 2000000 in
theorem shl_any (n0 n1 n2 n3 a0 a1 a2 a3 : Int) (hn : Ws n0 n1 n2 n3) (ha : Ws a0 a1 a2 a3) (w : World) :
    Calls Try.prog 32 #[.agg #[.int .u64 n0, .int .u64 n1, .int .u64 n2, .int .u64 n3], .agg #[.int .u64 a0, .int .u64 a1, .int .u64 a2, .int .u64 a3]] w fun e w' =>
      ∃ r0 r1 r2 r3 : Int, e = .returned (.agg #[.int .u64 r0, .int .u64 r1, .int .u64 r2, .int .u64 r3]) ∧ Ws r0 r1 r2 r3 ∧ Hid (val r0 r1 r2 r3 = up (val n0 n1 n2 n3) (val a0 a1 a2 a3)) ∧ Below w.heap.size w w' := by
  have ho : Pt 0 := ⟨by decide, by decide⟩
  have h256 : Ws 256 0 0 0 := ⟨⟨by decide, by decide⟩, ho, ho, ho⟩
  obtain ⟨b, hb⟩ : ∃ b, blw (val n0 n1 n2 n3) (val 256 0 0 0) = b := ⟨_, rfl⟩
  have lx := less_any n0 n1 n2 n3 256 0 0 0 hn h256
  rw [hb] at lx
  have LX : Hid (∀ w : World, _) := lx
  have HB : Hid (_ = _) := hb
  clear lx hb
  go_enter Try.func32, Try.ntmps32
  go_wp2
  refine wpOf (fun W => Below w.heap.size w W ∧ SD w.heap.size n0 n1 n2 n3 a0 a1 a2 a3 W) ⟨?_, ?_⟩ ?_
  · go_grown
  · exact ⟨by simp, by simp [go_sem], by simp [go_sem], by simp [go_sem], by simp [go_sem], by simp [go_sem], by simp [go_sem], by simp [go_sem], by simp [go_sem], by simp [go_sem], by simp [go_sem], by simp [go_sem], by simp [go_sem], fun o => by simp [go_sem]⟩
  rintro V ⟨E0, s0⟩
  obtain ⟨zz, x0, x1, x2, x3, _⟩ := id s0
  have k0 := cell_regrown x0
  have k1 := cell_regrown x1
  have k2 := cell_regrown x2
  have k3 := cell_regrown x3
  have qo := inClass (w := V) (of_any 256)
  have ql := inClass (w := V) LX.out
  refine wp_region_quiet_below (by kernel_rfl) (by kernel_rfl) ?_
  repeat (quiet_step (first | (go_at_call 16; exact qo _ _) | (go_at_call 42; exact ql _ _)))
  refine wpQuiet_nil ?_
  intro w1 hw'
  have hb1 : Below V.heap.size V w1 := by
    obtain ⟨p, rfl⟩ := hw'
    exact below_regrown _ _ _
  have s1 := SD.below s0 hb1
  have E1 := belowStep E0 E0.size hb1
  clear hw' hb1 k0 k1 k2 k3 qo ql s0 E0 zz x0 x1 x2 x3
  cases b
  · obtain ⟨zz, x0, x1, x2, x3, y0, y1, y2, y3, z0, z1, z2, z3, zf⟩ := id s1
    go_wp2
    refine bodyPost_ret (v := .agg #[.int .u64 0, .int .u64 0, .int .u64 0, .int .u64 0]) (by simp [results, Try.results32, go_sem, *]) rfl ⟨0, 0, 0, 0, rfl, ⟨ho, ho, ho, ho⟩, ?_, ?_⟩
    · have h := HB.out
      unfold blw at h
      have h' : ¬ val n0 n1 n2 n3 < 256 := of_decide_eq_false h
      show _ = _
      unfold up
      rw [if_neg h']
      rfl
    · go_grown
  · have hlt : val n0 n1 n2 n3 < 256 := of_decide_eq_true HB.out
    obtain ⟨e1, e2, e3, e4, e5⟩ := small_word n0 n1 n2 n3 hn hlt
    have hn0 : 0 ≤ n0 := hn.1.1
    have E5 : Hid (_ = _) := e5
    clear e5
    obtain ⟨i1, i2, _⟩ := long_of_word a0 a1 a2 a3 ha
    have s1d := SD.drew s1
    have E1d := Below.drew E1
    clear e1 e2 e3
    have I2 : Hid (_ = _) := i2
    clear i2
    go_wp2
    go_region_held3 (fun w' => w.heap.size + 2 < w'.heap.size ∧ w'.cell? ⟨w.heap.size, 0, none⟩ = some (.int .u64 n0) ∧ w'.cell? ⟨w.heap.size, 1, none⟩ = some (.int .u64 n1) ∧ w'.cell? ⟨w.heap.size, 2, none⟩ = some (.int .u64 n2) ∧ w'.cell? ⟨w.heap.size, 3, none⟩ = some (.int .u64 n3) ∧ w'.cell? ⟨w.heap.size + 1, 0, none⟩ = some (.int .u64 a0) ∧ w'.cell? ⟨w.heap.size + 1, 1, none⟩ = some (.int .u64 a1) ∧ w'.cell? ⟨w.heap.size + 1, 2, none⟩ = some (.int .u64 a2) ∧ w'.cell? ⟨w.heap.size + 1, 3, none⟩ = some (.int .u64 a3)) (((repeat' (first | with_reducible exact SD.two s4 | with_reducible exact SD.two s3 | with_reducible exact SD.two s2 | with_reducible exact SD.two s1d | with_reducible exact SD.two s1 | with_reducible refine SE.setCell (n := w.heap.size) (a0 := n0) (a1 := n1) (a2 := n2) (a3 := n3) (b0 := a0) (b1 := a1) (b2 := a2) (b3 := a3) ?_ _ ?_ _ | (dsimp only; omega))); done))
      (first
        | (go_at_call 58; refine (lengthen_any a0 a1 a2 a3 _).mono ?_; rintro e w2 ⟨rfl, hb2⟩; have s2 := SD.below s1d hb2; have E2 := belowStep E1d E1d.size hb2)
        | (go_at_call 68; refine (raise_any _ _ _ _ _ _ _ _ _ _ _ _ n0 i1 hn0 e4 _).mono ?_; rintro e w3 ⟨t0, t1, t2, t3, t4, t5, t6, t7, t8, t9, t10, t11, rfl, ht, htv, hb3⟩; have s3 := SD.below s2 hb3; have E3 := belowStep E2 E2.size hb3)
        | (go_at_call 54; refine (lowest_any _ _ _ _ _ _ _ _ _ _ _ _ _).mono ?_; rintro e w4 ⟨rfl, hb4⟩; have s4 := SD.below s3 hb4; have E4 := belowStep E3 E3.size hb4; obtain ⟨zz, x0, x1, x2, x3, y0, y1, y2, y3, z0, z1, z2, z3, zf⟩ := id s4))
    go_wp2
    refine bodyPost_ret (v := .agg #[.int .u64 t0, .int .u64 t1, .int .u64 t2, .int .u64 t3]) (by simp [results, Try.results32, go_sem, *]) rfl ⟨t0, t1, t2, t3, rfl, ⟨ht.1, ht.2.1, ht.2.2.1, ht.2.2.2.1⟩, ?_, ?_⟩
    · obtain ⟨k, hk⟩ := htv.out
      show _ = _
      rw [low_of_long t0 t1 t2 t3 t4 t5 t6 t7 t8 t9 t10 t11 ht]
      unfold up
      rw [if_pos hlt, E5.out, ← I2.out, ← hk]
      omega
    · go_grown

set_option maxHeartbeats 2000000 in
theorem shr_any (n0 n1 n2 n3 a0 a1 a2 a3 : Int) (hn : Ws n0 n1 n2 n3) (ha : Ws a0 a1 a2 a3) (w : World) :
    Calls Try.prog 34 #[.agg #[.int .u64 n0, .int .u64 n1, .int .u64 n2, .int .u64 n3], .agg #[.int .u64 a0, .int .u64 a1, .int .u64 a2, .int .u64 a3]] w fun e w' =>
      ∃ r0 r1 r2 r3 : Int, e = .returned (.agg #[.int .u64 r0, .int .u64 r1, .int .u64 r2, .int .u64 r3]) ∧ Ws r0 r1 r2 r3 ∧ Hid (val r0 r1 r2 r3 = dn (val n0 n1 n2 n3) (val a0 a1 a2 a3)) ∧ Below w.heap.size w w' := by
  have ho : Pt 0 := ⟨by decide, by decide⟩
  have h256 : Ws 256 0 0 0 := ⟨⟨by decide, by decide⟩, ho, ho, ho⟩
  obtain ⟨b, hb⟩ : ∃ b, blw (val n0 n1 n2 n3) (val 256 0 0 0) = b := ⟨_, rfl⟩
  have lx := less_any n0 n1 n2 n3 256 0 0 0 hn h256
  rw [hb] at lx
  have LX : Hid (∀ w : World, _) := lx
  have HB : Hid (_ = _) := hb
  clear lx hb
  go_enter Try.func34, Try.ntmps34
  go_wp2
  refine wpOf (fun W => Below w.heap.size w W ∧ SD w.heap.size n0 n1 n2 n3 a0 a1 a2 a3 W) ⟨?_, ?_⟩ ?_
  · go_grown
  · exact ⟨by simp, by simp [go_sem], by simp [go_sem], by simp [go_sem], by simp [go_sem], by simp [go_sem], by simp [go_sem], by simp [go_sem], by simp [go_sem], by simp [go_sem], by simp [go_sem], by simp [go_sem], by simp [go_sem], fun o => by simp [go_sem]⟩
  rintro V ⟨E0, s0⟩
  obtain ⟨zz, x0, x1, x2, x3, _⟩ := id s0
  have k0 := cell_regrown x0
  have k1 := cell_regrown x1
  have k2 := cell_regrown x2
  have k3 := cell_regrown x3
  have qo := inClass (w := V) (of_any 256)
  have ql := inClass (w := V) LX.out
  refine wp_region_quiet_below (by kernel_rfl) (by kernel_rfl) ?_
  repeat (quiet_step (first | (go_at_call 16; exact qo _ _) | (go_at_call 42; exact ql _ _)))
  refine wpQuiet_nil ?_
  intro w1 hw'
  have hb1 : Below V.heap.size V w1 := by
    obtain ⟨p, rfl⟩ := hw'
    exact below_regrown _ _ _
  have s1 := SD.below s0 hb1
  have E1 := belowStep E0 E0.size hb1
  clear hw' hb1 k0 k1 k2 k3 qo ql s0 E0 zz x0 x1 x2 x3
  cases b
  · obtain ⟨zz, x0, x1, x2, x3, y0, y1, y2, y3, z0, z1, z2, z3, zf⟩ := id s1
    go_wp2
    refine bodyPost_ret (v := .agg #[.int .u64 0, .int .u64 0, .int .u64 0, .int .u64 0]) (by simp [results, Try.results34, go_sem, *]) rfl ⟨0, 0, 0, 0, rfl, ⟨ho, ho, ho, ho⟩, ?_, ?_⟩
    · have h := HB.out
      unfold blw at h
      have h' : ¬ val n0 n1 n2 n3 < 256 := of_decide_eq_false h
      show _ = _
      unfold dn
      rw [if_neg h']
      rfl
    · go_grown
  · have hlt : val n0 n1 n2 n3 < 256 := of_decide_eq_true HB.out
    obtain ⟨e1, e2, e3, e4, e5⟩ := small_word n0 n1 n2 n3 hn hlt
    have hn0 : 0 ≤ n0 := hn.1.1
    have E5 : Hid (_ = _) := e5
    clear e5
    obtain ⟨zz, x0, x1, x2, x3, y0, y1, y2, y3, z0, z1, z2, z3, zf⟩ := id s1
    go_wp2_with fail
    refine (lower_any a0 a1 a2 a3 n0 ha hn0 e4 _).mono ?_
    rintro e w2 ⟨t0, t1, t2, t3, rfl, ht, htv, hb2⟩
    have s2 := SD.below s1 hb2
    have E2 := belowStep E1 E1.size hb2
    clear zz x0 x1 x2 x3 y0 y1 y2 y3 z0 z1 z2 z3 zf
    obtain ⟨zz, x0, x1, x2, x3, y0, y1, y2, y3, z0, z1, z2, z3, zf⟩ := id s2
    go_wp2
    refine bodyPost_ret (v := .agg #[.int .u64 t0, .int .u64 t1, .int .u64 t2, .int .u64 t3]) (by simp [results, Try.results34, go_sem, *]) rfl ⟨t0, t1, t2, t3, rfl, ht, ?_, ?_⟩
    · show _ = _
      unfold dn
      rw [if_pos hlt, E5.out, htv.out]
    · go_grown

end Go.Proofs.Ytgapcjdgakamoaa
