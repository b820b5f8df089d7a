/- What mix does at this translation: all rounds, for all lanes, where the tables are what the package lays. -/
import Derived.Test.YteiadmhododppaaDoorK3
namespace Go.Proofs.YteiadmhododppaaDoor
open Go.RowKit Go.Sort

/-- What a round's lane 0 is joined by. -/
def cn (j : Nat) : Int := [1, 32898, 9223372036854808714, 9223372039002292224, 32907, 2147483649, 9223372039002292353, 9223372036854808585, 138, 136, 2147516425, 2147483658, 2147516555, 9223372036854775947, 9223372036854808713, 9223372036854808579, 9223372036854808578, 9223372036854775936, 32778, 9223372039002259466, 9223372039002292353, 9223372036854808704, 2147483649, 9223372039002292232].getD j 0

/-- A round, and the first k rounds. -/
def roundOf (k : Nat) (g : Nat → Int) (j : Nat) : Int := if j = 0 then xr (rowsOf (movedOf (colsOf g)) 0) (cn k) else rowsOf (movedOf (colsOf g)) j
def roundsOf (g : Nat → Int) : Nat → Nat → Int
  | 0 => g
  | k + 1 => roundOf k (roundsOf g k)

structure Laid (w : World) : Prop where
  t : Tabs w
  c : Fw 0 24 (fun j => .int .u64 (cn j)) w

theorem but_trans {s : Nat} {w W V : World} (h : w.grownBy W (some s)) (g : W.grownBy V (some s)) : w.grownBy V (some s) :=
  ⟨g.os.trans h.os, g.tape.trans h.tape, g.output.trans h.output, Nat.le_trans h.size g.size, fun k hk hne => (g.block k (Nat.lt_of_lt_of_le hk h.size) hne).trans (h.block k hk hne)⟩
theorem Laid.but {s : Nat} {w W : World} (k : Laid w) (h : w.grownBy W (some s)) (h3 : 3 ≤ s) : Laid W :=
  ⟨⟨k.t.t.but h (by omega), k.t.p.but h (by omega)⟩, k.c.but h (by omega)⟩
theorem Laid.below {w W : World} (k : Laid w) (h : Below w.heap.size w W) : Laid W := ⟨⟨k.t.t.below h, k.t.p.below h⟩, k.c.below h⟩

/-- Twenty-five lanes of 0. -/
abbrev zs : Array Value := #[.int .u64 0, .int .u64 0, .int .u64 0, .int .u64 0, .int .u64 0, .int .u64 0, .int .u64 0, .int .u64 0, .int .u64 0, .int .u64 0, .int .u64 0, .int .u64 0, .int .u64 0, .int .u64 0, .int .u64 0, .int .u64 0, .int .u64 0, .int .u64 0, .int .u64 0, .int .u64 0, .int .u64 0, .int .u64 0, .int .u64 0, .int .u64 0, .int .u64 0]

set_option maxRecDepth 20000 in
set_option maxHeartbeats 4000000 in
theorem mix_any (s : Nat) (f : Nat → Int) (w : World) (hs : Fw s 25 (fun j => .int .u64 (f j)) w) (hl : Laid w) (h3 : 3 ≤ s) :
    Calls Tryd.prog 15 #[.pointer (some ⟨s, 0, none⟩)] w fun e w' =>
      e = .returned (.tuple #[]) ∧ Fw s 25 (fun j => .int .u64 (roundsOf f 24 j)) w' ∧ w.grownBy w' (some s) := by
  have km : IntKind.u64.max = 18446744073709551615 := by decide
  have ks : IntKind.u64.signed = false := rfl
  go_enter Tryd.func15, Tryd.ntmps15
  go_wp2
  go_loopg [4] 24 (fun gk i wr => ∃ k : Nat, k + gk = 24 ∧ i = .int .i64 k ∧ w.grownBy wr (some s) ∧ Laid wr ∧ Fw s 25 (fun j => .int .u64 (roundsOf f k j)) wr)
  case atStart => exact ⟨0, rfl, rfl, but_refl s w, hl, hs⟩
  case round =>
    clear hl hs
    obtain ⟨k, hk, rfl, GW, LW, CS⟩ := hrel
    by_cases hlt : k < 24
    · have l0 : (k : Int) < 24 := by omega
      obtain ⟨g, hg⟩ : ∃ g, roundsOf f k = g := ⟨_, rfl⟩
      have HG : Hid (roundsOf f k = g) := hg
      rw [hg] at CS
      clear hg
      go_wp2_with fail
      refine (joinColumns_any s g wr CS).mono ?_
      rintro e w1 ⟨rfl, S1, G1⟩
      have L1 := LW.but G1 h3
      have GW1 := but_trans GW G1
      clear G1 GW LW CS
      go_wp2_with fail
      refine (turnAndMove_any s (colsOf g) w1 S1 L1.t).mono ?_
      rintro e w2 ⟨rfl, B2⟩
      have S2 := S1.below B2
      have L2 := L1.below B2
      have GW2 := but_below GW1 B2
      clear B2 GW1 L1 S1
      have hne : s ≠ w2.heap.size := Nat.ne_of_lt S2.z
      have Z2 : Fw w2.heap.size 25 (fun _ => .int .u64 0) (w2.alloc (.cells zs 31)) := Fw.lit _ _ rfl rfl
      have hst := Z2.run (P := Tryd.prog) (fun j => .int .u64 (movedOf (colsOf g) j)) (fun _ => rfl)
      have N3 := Z2.store (fun j => .int .u64 (movedOf (colsOf g) j))
      obtain ⟨l, hl⟩ : ∃ l, (fl 25 fun j => .int .u64 (movedOf (colsOf g) j)) = l := ⟨_, rfl⟩
      have hlen : l.length = 25 := by rw [← hl]; exact fl_len _ _
      rw [hl] at hst N3 ⊢
      have S3 : Fw s 25 (fun j => .int .u64 (colsOf g j)) ((w2.alloc (.cells zs 31)).setCells w2.heap.size 0 l) := (S2.alloc _).storeOther _ hne.symm _
      have B3 : Below w2.heap.size w2 ((w2.alloc (.cells zs 31)).setCells w2.heap.size 0 l) := below_setCells' (Nat.le_refl _) _ _ _ ((Below.refl _ w2).alloc (Nat.le_refl _) _)
      have H3 : Hid (_ ∧ _ ∧ _ ∧ _ ∧ _) := ⟨S3, N3, L2.below B3, but_below GW2 B3, hne⟩
      clear S3 N3 B3 Z2 S2 L2 GW2 hl hne
      go_wp2_with fail
      obtain ⟨S3, N3, L3', G3, hne⟩ := H3.out
      refine (joinRows_any s w2.heap.size (colsOf g) (movedOf (colsOf g)) _ S3 N3 hne).mono ?_
      rintro e w4 ⟨rfl, S4, G4⟩
      have L4 := L3'.but G4 h3
      have GW4 := but_trans G3 G4
      clear H3 S3 N3 L3' G3 G4 hne hst
      have m0 := S4.c 0 (by decide)
      have m1 := L4.c.c k hlt
      obtain ⟨v, hv⟩ : ∃ q, rowsOf (movedOf (colsOf g)) 0 = q := ⟨_, rfl⟩
      obtain ⟨d, hd⟩ : ∃ q, cn k = q := ⟨_, rfl⟩
      rw [hv] at m0
      rw [hd] at m1
      have HV : Hid (_ ∧ _) := ⟨hv, hd⟩
      clear hv hd
      go_wp2
      have k0 := cell_regrown m0
      have k1 := cell_regrown m1
      refine region_tail 9 (by kernel_rfl) (by kernel_rfl) ?_
      simp only [List.take_succ_cons, List.take_zero, List.drop_succ_cons, List.drop_zero]
      iterate 9 (quiet_step (fail))
      refine wpQuiet_nil ?_
      intro w8 hw8
      have hb8 : Below w4.heap.size w4 w8 := by
        obtain ⟨p, rfl⟩ := hw8
        exact below_regrown _ _ _
      have S8 := S4.below hb8
      have L8 := L4.below hb8
      have G8 := but_below GW4 hb8
      clear hw8 hb8 k0 k1 m0 m1 S4 L4 GW4
      have n0 := S8.c 0 (by decide)
      have sf := S8.f
      have sz := S8.z
      go_wp2
      go_roundg (gk - 1)
      case measure => omega
      case rel =>
        obtain ⟨g1, g2⟩ := HV.out
        refine ⟨k + 1, by omega, rfl, but_set G8 _, L8.but (but_set (but_refl s w8) _) h3, S8.put 0 (by decide) _ (fun j _ => ?_)⟩
        show Value.int .u64 (roundOf k (roundsOf f k) j) = _
        rw [HG.out, roundOf]
        by_cases e : j = 0
        · rw [if_pos e, if_pos e, g1, g2]
        · rw [if_neg e, if_neg e]
    · have hk2 : k = 24 := by omega
      subst hk2
      clear hlt
      go_wp2
      go_end0
      exact ⟨rfl, CS, GW⟩
end Go.Proofs.YteiadmhododppaaDoor
