/- WordBytes' own statements, walked: for any word and any text the law returns true. No condition beside that a text has no more bytes than an int tells. -/
import Derived.Test.YtgapcjdgakamoaaV19
namespace Go.Proofs.Ytgapcjdgakamoaa
open Go.RowKit Go.Shelf Go.Sort

theorem be_bd (t : ByteArray) (ht : t.size ≤ 32) : 0 ≤ sum8 (be t) t.size ∧ sum8 (be t) t.size < 115792089237316195423570985008687907853269984665640564039457584007913129639936 := by
  have h := sum8_bd (be t) (fun j => bt_bd t _) t.size
  refine ⟨h.1, Int.lt_of_lt_of_le h.2 ?_⟩
  have e : (115792089237316195423570985008687907853269984665640564039457584007913129639936 : Int) = 2 ^ (8 * t.size) * 2 ^ (8 * (32 - t.size)) := by
    rw [← Int.pow_add, show 8 * t.size + 8 * (32 - t.size) = 256 by omega]; rfl
  have hp : (0 : Int) < 2 ^ (8 * (32 - t.size)) := Int.pow_pos (by decide)
  have hq : (0 : Int) < 2 ^ (8 * t.size) := Int.pow_pos (by decide)
  have h3 : (2 : Int) ^ (8 * t.size) * 1 ≤ 2 ^ (8 * t.size) * 2 ^ (8 * (32 - t.size)) := Int.mul_le_mul_of_nonneg_left (by omega) (Int.le_of_lt hq)
  rw [e]; omega
theorem octs_size (x : Int) : (⟨(octs x).toArray⟩ : ByteArray).size = 32 := by
  show (octs x).toArray.size = 32
  simp [octs_len]
theorem be_octs (x : Int) (i : Nat) (hi : i < 32) : be ⟨(octs x).toArray⟩ i = byteAt x i := by
  unfold be bt
  rw [octs_size]
  have hl : 32 - 1 - i < (octs x).length := by rw [octs_len]; omega
  have : (⟨(octs x).toArray⟩ : ByteArray).data.getD (32 - 1 - i) 0 = (octs x)[32 - 1 - i] := by
    show (octs x).toArray.getD (32 - 1 - i) 0 = _
    rw [Array.getD, dif_pos (by simpa using hl)]
    simp
  rw [this, octs_at, show 31 - (32 - 1 - i) = i by omega]
theorem sum_octs (x : Int) (hx : 0 ≤ x ∧ x < 115792089237316195423570985008687907853269984665640564039457584007913129639936) : sum8 (be (last32 ⟨(octs x).toArray⟩)) (last32 ⟨(octs x).toArray⟩).size = x := by
  have e : last32 ⟨(octs x).toArray⟩ = ⟨(octs x).toArray⟩ := by unfold last32; rw [if_pos (by rw [octs_size]; decide)]
  rw [e, octs_size, sum8_ext _ (byteAt x) 32 (fun j hj => be_octs x j hj), sum8_byte, show ((2 : Int) ^ (8 * 32)) = 115792089237316195423570985008687907853269984665640564039457584007913129639936 from rfl]
  omega

set_option maxHeartbeats 4000000 in
theorem bytelaw_any (a0 a1 a2 a3 : Int) (s : ByteArray) (ha : Ws a0 a1 a2 a3) (hs : s.size ≤ 9223372036854775807) (w : World) :
    Calls Try.prog 8 #[.agg #[.int .u64 a0, .int .u64 a1, .int .u64 a2, .int .u64 a3], .string s] w fun e w' => e = .returned (.bool true) ∧ Below w.heap.size w w' := by
  have bA := val_bd _ _ _ _ ha
  obtain ⟨T, hT⟩ : ∃ T : ByteArray, (⟨(octs (val a0 a1 a2 a3)).toArray⟩ : ByteArray) = T := ⟨_, rfl⟩
  have cB := bytes_any a0 a1 a2 a3 ha
  have cC := rbytes_any a0 a1 a2 a3 ha
  obtain ⟨p0, p1, p2, p3, hP, vP, cP⟩ := exact4 (be_bd _ (last32_size s)) (from_any s hs)
  obtain ⟨q0, q1, q2, q3, hQ, vQ, cQ⟩ := exact4 (be_bd _ (last32_size s)) (rfrom_any s hs)
  obtain ⟨r0, r1, r2, r3, hR, vR, cR⟩ := exact4 (be_bd _ (last32_size _)) (from_any ⟨(octs (val a0 a1 a2 a3)).toArray⟩ (by rw [octs_size]; decide))
  have e1 := eq_word_yes p0 p1 p2 p3 q0 q1 q2 q3 hP hQ (by rw [vP.out, vQ.out])
  have e2 := eq_word_yes r0 r1 r2 r3 a0 a1 a2 a3 hR ha (by rw [vR.out, sum_octs _ bA])
  rw [hT] at cB cC cR
  have KB : Hid (∀ w : World, _) := cB
  have KC : Hid (∀ w : World, _) := cC
  have KP : Hid (∀ w : World, _) := cP
  have KQ : Hid (∀ w : World, _) := cQ
  have KR : Hid (∀ w : World, _) := cR
  clear cB cC cP cQ cR vP vQ vR hP hQ hR bA hT hs
  go_enter Try.func8, Try.ntmps8
  go_wp2_with fail
  refine (shown_any _).mono ?_
  rintro e w1 ⟨rfl, hb1⟩
  have C0 : Cw w.heap.size a0 a1 a2 a3 w1 := Cw.below (by repeat' (first | exact Cw.new _ _ _ _ _ _ | apply Cw.alloc | apply Cw.drew)) hb1
  have E1 := belowStep (n := w.heap.size) (w := w) (by go_grown) (by (try simp) <;> omega) hb1
  clear hb1
  go_wp2
  have k0 := cell_regrown C0.c0
  have k1 := cell_regrown C0.c1
  have k2 := cell_regrown C0.c2
  have k3 := cell_regrown C0.c3
  have cB := inClass (w := w1) KB.out
  have cC := inClass (w := w1) KC.out
  have cP := inClass (w := w1) KP.out
  have cQ := inClass (w := w1) KQ.out
  have cR := inClass (w := w1) KR.out
  refine wp_region_quiet_below (by kernel_rfl) (by kernel_rfl) ?_
  iterate 3 (quiet_step (fail))
  quiet_step (exact cB _ _)
  iterate 1 (quiet_step (fail))
  quiet_step (exact cC _ _)
  iterate 4 (quiet_step (fail))
  quiet_step (exact cP _ _)
  iterate 1 (quiet_step (fail))
  quiet_step (exact cQ _ _)
  iterate 4 (quiet_step (fail))
  quiet_step (exact cB _ _)
  quiet_step (exact cR _ _)
  iterate 4 (quiet_step (fail))
  refine wpQuiet_nil ?_
  intro _ hw'
  obtain ⟨⟨dq, osq⟩, hw''⟩ := hw'
  subst hw''
  go_wp2
  go_ret
  exact ⟨rfl, belowStep E1 E1.size (below_regrown w1 dq osq)⟩
end Go.Proofs.Ytgapcjdgakamoaa
