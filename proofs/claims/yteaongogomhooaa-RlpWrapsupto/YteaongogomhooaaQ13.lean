/- What bytes begin with: cut. -/
import Derived.Test.YteaongogomhooaaQ12
namespace Go.Proofs.Yteaongogomhooaa
open Go.RowKit Go.Shelf Go.Sort

/-- The kind of the item that bytes begin with (0: none, 1: a text, 2: a list), its body, what stands behind it. -/
def cutK (s : ByteArray) : Nat × ByteArray × ByteArray :=
  if bt s 0 < 128 then (1, s.extract 0 1, s.extract 1 s.size)
  else if bt s 0 < 192 then
    match cutAt ((bt s 0).toNat - 128) (s.extract 1 s.size) with
    | none => (0, ⟨#[]⟩, ⟨#[]⟩)
    | some (d, n) => if bare ((s.extract 1 s.size).extract d (d + n)) then (0, ⟨#[]⟩, ⟨#[]⟩) else (1, (s.extract 1 s.size).extract d (d + n), (s.extract 1 s.size).extract (d + n) (s.extract 1 s.size).size)
  else
    match cutAt ((bt s 0).toNat - 192) (s.extract 1 s.size) with
    | none => (0, ⟨#[]⟩, ⟨#[]⟩)
    | some (d, n) => (2, (s.extract 1 s.size).extract d (d + n), (s.extract 1 s.size).extract (d + n) (s.extract 1 s.size).size)
def ktV (k : Nat × ByteArray × ByteArray) : Value := .tuple #[.int .i64 k.1, .string k.2.1, .string k.2.2]

set_option maxRecDepth 20000 in
set_option maxHeartbeats 2000000 in
theorem cut_any (s : ByteArray) (hp : 0 < s.size) (hs : s.size < 1000000000000000000) (w : World) :
    Calls Try.prog 48 #[.string s] w fun e w' => e = .returned (ktV (cutK s)) ∧ Below w.heap.size w w' := by
  have BW : Below w.heap.size w w := Below.refl _ _
  have l0 : (0 : Int) < s.size := by omega
  have l1 : (1 : Int) ≤ s.size := by omega
  have l1' : ¬ (s.size : Int) < 1 := by omega
  have l1n : 1 ≤ s.size := by omega
  have g0 := bt_get s 0 hp
  have hu := bt_bd s 0
  have KC := fun told h => cutBody_any told (s.extract 1 s.size) h (by simp; omega)
  obtain ⟨co, hco⟩ : ∃ c, cutK s = c := ⟨_, rfl⟩
  rw [hco]
  unfold cutK at hco
  obtain ⟨r, hr⟩ : ∃ r, s.extract 1 s.size = r := ⟨_, rfl⟩
  rw [hr] at KC hco
  obtain ⟨i, hi⟩ : ∃ i, bt s 0 = i := ⟨_, rfl⟩
  rw [hi] at g0 hu hco
  clear hi
  obtain ⟨u, rfl⟩ : ∃ u : Nat, i = u := ⟨i.toNat, by omega⟩
  rw [Int.toNat_natCast] at hco
  by_cases h1 : (u : Int) < 128
  · rw [if_pos h1] at hco
    have HC : Hid (_ = co) := hco
    clear hco
    go_enter Try.func48, Try.ntmps48
    go_wp2
    refine wp_region_quiet_below (by kernel_rfl) (by kernel_rfl) ?_
    repeat (quiet_step (fail))
    refine wpQuiet_nil ?_
    intro w8 hw8
    have B8 : Below w.heap.size w w8 := by
      obtain ⟨p, rfl⟩ := hw8
      exact belowStep BW BW.size (below_regrown _ _ _)
    clear hw8 BW
    go_wp2
    refine bodyPost_ret (v := .tuple #[.int .i64 1, .string (s.extract 0 1), .string r]) (by simp [results, Try.results48, go_sem]) rfl ⟨by rw [← HC.out]; rfl, B8⟩
  · rw [if_neg h1] at hco
    by_cases h2 : (u : Int) < 192
    · rw [if_pos h2] at hco
      have HC : Hid (_ = co) := hco
      clear hco
      obtain ⟨t, ht⟩ : ∃ t, u - 128 = t := ⟨_, rfl⟩
      have wt : (u : Int) - 128 = t := by omega
      have wu : IntKind.i64.wrap (u : Int) = u := by rw [IntKind.wrap_i64]; omega
      have wt2 : IntKind.i64.wrap (t : Int) = t := by rw [IntKind.wrap_i64]; omega
      have KC1 := KC t (by omega)
      rw [ht] at HC
      obtain ⟨ca, hca⟩ : ∃ c, cutAt t r = c := ⟨_, rfl⟩
      rw [hca] at HC KC1
      clear KC hca
      go_enter Try.func48, Try.ntmps48
      have cC : ∀ d os, Calls Try.prog 50 #[.int .i64 t, .string r] (grow (redrawn w d) os) fun e w'' => e = .returned (cbR r ca) ∧ ∃ p : Regrown, w'' = grow (redrawn w p.d) p.os := fun d os => Calls.regrown_of (KC1 _)
      clear KC1
      cases ca with
      | none =>
        dsimp only [cbR] at cC
        go_wp2_with fail
        refine wp_region_quiet_below (by kernel_rfl) (by kernel_rfl) ?_
        iterate 6 (quiet_step (fail))
        quiet_step (exact cC _ _)
        repeat (quiet_step (fail))
        refine wpQuiet_nil ?_
        rintro w1 hw1
        have BW : Below w.heap.size w w1 := by
          obtain ⟨p, rfl⟩ := hw1
          exact below_regrown _ _ _
        clear hw1 cC
        go_wp2
        refine bodyPost_ret (v := .tuple #[.int .i64 0, .string ⟨#[]⟩, .string ⟨#[]⟩]) (by simp [results, Try.results48, go_sem]) rfl ⟨by rw [← HC.out]; rfl, BW⟩
      | some q =>
        obtain ⟨d, n⟩ := q
        dsimp only [cbR] at cC
        obtain ⟨bo, hbo⟩ : ∃ b, r.extract d (d + n) = b := ⟨_, rfl⟩
        obtain ⟨be, hbe⟩ : ∃ b, r.extract (d + n) r.size = b := ⟨_, rfl⟩
        dsimp only at HC
        rw [hbo, hbe] at HC cC
        clear hbo hbe
        go_wp2_with fail
        refine wp_region_quiet_below (by kernel_rfl) (by kernel_rfl) ?_
        iterate 6 (quiet_step (fail))
        quiet_step (exact cC _ _)
        repeat (quiet_step (fail))
        refine wpQuiet_nil ?_
        rintro w1 hw1
        have BW : Below w.heap.size w w1 := by
          obtain ⟨p, rfl⟩ := hw1
          exact below_regrown _ _ _
        clear hw1 cC
        have KB := isBare_any bo
        obtain ⟨ib, hib⟩ : ∃ b, bare bo = b := ⟨_, rfl⟩
        rw [hib] at KB HC
        clear hib
        go_wp2_with fail
        refine (KB _).mono ?_
        rintro e0 w2 ⟨rfl, B2⟩
        replace BW := belowStep BW BW.size B2
        clear B2 KB
        cases ib with
        | true =>
          go_wp2
          refine bodyPost_ret (v := .tuple #[.int .i64 0, .string ⟨#[]⟩, .string ⟨#[]⟩]) (by simp [results, Try.results48, go_sem]) rfl ⟨by rw [← HC.out]; rfl, BW⟩
        | false =>
          go_wp2
          refine bodyPost_ret (v := .tuple #[.int .i64 1, .string bo, .string be]) (by simp [results, Try.results48, go_sem]) rfl ⟨by rw [← HC.out]; rfl, BW⟩
    · rw [if_neg h2] at hco
      have HC : Hid (_ = co) := hco
      clear hco
      obtain ⟨t, ht⟩ : ∃ t, u - 192 = t := ⟨_, rfl⟩
      have wt : (u : Int) - 192 = t := by omega
      have wu : IntKind.i64.wrap (u : Int) = u := by rw [IntKind.wrap_i64]; omega
      have wt2 : IntKind.i64.wrap (t : Int) = t := by rw [IntKind.wrap_i64]; omega
      have KC1 := KC t (by omega)
      rw [ht] at HC
      obtain ⟨ca, hca⟩ : ∃ c, cutAt t r = c := ⟨_, rfl⟩
      rw [hca] at HC KC1
      clear KC hca
      go_enter Try.func48, Try.ntmps48
      have cC : ∀ d os, Calls Try.prog 50 #[.int .i64 t, .string r] (grow (redrawn w d) os) fun e w'' => e = .returned (cbR r ca) ∧ ∃ p : Regrown, w'' = grow (redrawn w p.d) p.os := fun d os => Calls.regrown_of (KC1 _)
      clear KC1
      cases ca with
      | none =>
        dsimp only [cbR] at cC
        go_wp2_with fail
        refine wp_region_quiet_below (by kernel_rfl) (by kernel_rfl) ?_
        iterate 6 (quiet_step (fail))
        quiet_step (exact cC _ _)
        repeat (quiet_step (fail))
        refine wpQuiet_nil ?_
        rintro w1 hw1
        have BW : Below w.heap.size w w1 := by
          obtain ⟨p, rfl⟩ := hw1
          exact below_regrown _ _ _
        clear hw1 cC
        go_wp2
        refine bodyPost_ret (v := .tuple #[.int .i64 0, .string ⟨#[]⟩, .string ⟨#[]⟩]) (by simp [results, Try.results48, go_sem]) rfl ⟨by rw [← HC.out]; rfl, BW⟩
      | some q =>
        obtain ⟨d, n⟩ := q
        dsimp only [cbR] at cC
        obtain ⟨bo, hbo⟩ : ∃ b, r.extract d (d + n) = b := ⟨_, rfl⟩
        obtain ⟨be, hbe⟩ : ∃ b, r.extract (d + n) r.size = b := ⟨_, rfl⟩
        dsimp only at HC
        rw [hbo, hbe] at HC cC
        clear hbo hbe
        go_wp2_with fail
        refine wp_region_quiet_below (by kernel_rfl) (by kernel_rfl) ?_
        iterate 6 (quiet_step (fail))
        quiet_step (exact cC _ _)
        repeat (quiet_step (fail))
        refine wpQuiet_nil ?_
        rintro w1 hw1
        have BW : Below w.heap.size w w1 := by
          obtain ⟨p, rfl⟩ := hw1
          exact below_regrown _ _ _
        clear hw1 cC
        go_wp2
        refine bodyPost_ret (v := .tuple #[.int .i64 2, .string bo, .string be]) (by simp [results, Try.results48, go_sem]) rfl ⟨by rw [← HC.out]; rfl, BW⟩
end Go.Proofs.Yteaongogomhooaa
