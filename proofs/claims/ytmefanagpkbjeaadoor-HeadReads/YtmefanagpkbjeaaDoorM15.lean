/- Lemmas: What bytes begin with: cut. The items that stand one behind the other in bytes, gone through. A slice of items that is appended to: where it lies then. -/
import Derived.Test.YtmefanagpkbjeaaDoorM1
import Derived.Test.YtmefanagpkbjeaaDoorM10
import Derived.Test.YtmefanagpkbjeaaDoorM11
import Derived.Test.YtmefanagpkbjeaaDoorM12
import Derived.Test.YtmefanagpkbjeaaDoorM13
import Derived.Test.YtmefanagpkbjeaaDoorM14
import Derived.Test.YtmefanagpkbjeaaDoorM2
import Derived.Test.YtmefanagpkbjeaaDoorM3
import Derived.Test.YtmefanagpkbjeaaDoorM6
import Derived.Test.YtmefanagpkbjeaaDoorM7
import Derived.Test.YtmefanagpkbjeaaDoorM8
import Derived.Test.YtmefanagpkbjeaaDoorM9
import Derived.Test.YtmefanagpkbjeaaDoorRows
namespace Go.Proofs.YtmefanagpkbjeaaDoor
open Go.RowKit Go.Shelf Go.Sort

/-- The kind of the item that bytes begin with (0: none, 1: a text, 2: a list), its body, what stands behind it. -/
def cutK (s : ByteArray) : Nat × ByteArray × ByteArray :=
  if bt s 0 < 128 then (1, s.extract 0 1, s.extract 1 s.size)
  else if bt s 0 < 192 then
    match cutAt ((bt s 0).toNat - 128) (s.extract 1 s.size) with
    | none => (0, ⟨#[]⟩, ⟨#[]⟩)
    | some (d, n) => if bare ((s.extract 1 s.size).extract d (d + n)) then (0, ⟨#[]⟩, ⟨#[]⟩) else (1, (s.extract 1 s.size).extract d (d + n), (s.extract 1 s.size).extract (d + n) (s.extract 1 s.size).size)
  else
    match cutAt ((bt s 0).toNat - 192) (s.extract 1 s.size) with
    | none => (0, ⟨#[]⟩, ⟨#[]⟩)
    | some (d, n) => (2, (s.extract 1 s.size).extract d (d + n), (s.extract 1 s.size).extract (d + n) (s.extract 1 s.size).size)
def ktV (k : Nat × ByteArray × ByteArray) : Value := .tuple #[.int .i64 k.1, .string k.2.1, .string k.2.2]

set_option maxRecDepth 20000 in
set_option maxHeartbeats 2000000 in
theorem cut_any (s : ByteArray) (hp : 0 < s.size) (hs : s.size < 1000000000000000000) (w : World) :
    Calls Tryd.prog 144 #[.string s] w fun e w' => e = .returned (ktV (cutK s)) ∧ Below w.heap.size w w' := by
  have BW : Below w.heap.size w w := Below.refl _ _
  have l0 : (0 : Int) < s.size := by omega
  have l1 : (1 : Int) ≤ s.size := by omega
  have l1' : ¬ (s.size : Int) < 1 := by omega
  have l1n : 1 ≤ s.size := by omega
  have g0 := bt_get s 0 hp
  have hu := bt_bd s 0
  have KC := fun told h => cutBody_any told (s.extract 1 s.size) h (by simp; omega)
  obtain ⟨co, hco⟩ : ∃ c, cutK s = c := ⟨_, rfl⟩
  rw [hco]
  unfold cutK at hco
  obtain ⟨r, hr⟩ : ∃ r, s.extract 1 s.size = r := ⟨_, rfl⟩
  rw [hr] at KC hco
  obtain ⟨i, hi⟩ : ∃ i, bt s 0 = i := ⟨_, rfl⟩
  rw [hi] at g0 hu hco
  clear hi
  obtain ⟨u, rfl⟩ : ∃ u : Nat, i = u := ⟨i.toNat, by omega⟩
  rw [Int.toNat_natCast] at hco
  by_cases h1 : (u : Int) < 128
  · rw [if_pos h1] at hco
    have HC : Hid (_ = co) := hco
    clear hco
    go_enter Tryd.func144, Tryd.ntmps144
    go_wp2
    refine wp_region_quiet_below (by kernel_rfl) (by kernel_rfl) ?_
    repeat (quiet_step (fail))
    refine wpQuiet_nil ?_
    intro w8 hw8
    have B8 : Below w.heap.size w w8 := by
      obtain ⟨p, rfl⟩ := hw8
      exact belowStep BW BW.size (below_regrown _ _ _)
    clear hw8 BW
    go_wp2
    refine bodyPost_ret (v := .tuple #[.int .i64 1, .string (s.extract 0 1), .string r]) (by simp [results, Tryd.results144, go_sem]) rfl ⟨by rw [← HC.out]; rfl, B8⟩
  · rw [if_neg h1] at hco
    by_cases h2 : (u : Int) < 192
    · rw [if_pos h2] at hco
      have HC : Hid (_ = co) := hco
      clear hco
      obtain ⟨t, ht⟩ : ∃ t, u - 128 = t := ⟨_, rfl⟩
      have wt : (u : Int) - 128 = t := by omega
      have wu : IntKind.i64.wrap (u : Int) = u := by rw [IntKind.wrap_i64]; omega
      have wt2 : IntKind.i64.wrap (t : Int) = t := by rw [IntKind.wrap_i64]; omega
      have KC1 := KC t (by omega)
      rw [ht] at HC
      obtain ⟨ca, hca⟩ : ∃ c, cutAt t r = c := ⟨_, rfl⟩
      rw [hca] at HC KC1
      clear KC hca
      go_enter Tryd.func144, Tryd.ntmps144
      have cC : ∀ d os, Calls Tryd.prog 148 #[.int .i64 t, .string r] (grow (redrawn w d) os) fun e w'' => e = .returned (cbR r ca) ∧ ∃ p : Regrown, w'' = grow (redrawn w p.d) p.os := fun d os => Calls.regrown_of (KC1 _)
      clear KC1
      cases ca with
      | none =>
        dsimp only [cbR] at cC
        go_wp2_with fail
        refine wp_region_quiet_below (by kernel_rfl) (by kernel_rfl) ?_
        iterate 6 (quiet_step (fail))
        quiet_step (exact cC _ _)
        repeat (quiet_step (fail))
        refine wpQuiet_nil ?_
        rintro w1 hw1
        have BW : Below w.heap.size w w1 := by
          obtain ⟨p, rfl⟩ := hw1
          exact below_regrown _ _ _
        clear hw1 cC
        go_wp2
        refine bodyPost_ret (v := .tuple #[.int .i64 0, .string ⟨#[]⟩, .string ⟨#[]⟩]) (by simp [results, Tryd.results144, go_sem]) rfl ⟨by rw [← HC.out]; rfl, BW⟩
      | some q =>
        obtain ⟨d, n⟩ := q
        dsimp only [cbR] at cC
        obtain ⟨bo, hbo⟩ : ∃ b, r.extract d (d + n) = b := ⟨_, rfl⟩
        obtain ⟨be, hbe⟩ : ∃ b, r.extract (d + n) r.size = b := ⟨_, rfl⟩
        dsimp only at HC
        rw [hbo, hbe] at HC cC
        clear hbo hbe
        go_wp2_with fail
        refine wp_region_quiet_below (by kernel_rfl) (by kernel_rfl) ?_
        iterate 6 (quiet_step (fail))
        quiet_step (exact cC _ _)
        repeat (quiet_step (fail))
        refine wpQuiet_nil ?_
        rintro w1 hw1
        have BW : Below w.heap.size w w1 := by
          obtain ⟨p, rfl⟩ := hw1
          exact below_regrown _ _ _
        clear hw1 cC
        have KB := isBare_any bo
        obtain ⟨ib, hib⟩ : ∃ b, bare bo = b := ⟨_, rfl⟩
        rw [hib] at KB HC
        clear hib
        go_wp2_with fail
        refine (KB _).mono ?_
        rintro e0 w2 ⟨rfl, B2⟩
        replace BW := belowStep BW BW.size B2
        clear B2 KB
        cases ib with
        | true =>
          go_wp2
          refine bodyPost_ret (v := .tuple #[.int .i64 0, .string ⟨#[]⟩, .string ⟨#[]⟩]) (by simp [results, Tryd.results144, go_sem]) rfl ⟨by rw [← HC.out]; rfl, BW⟩
        | false =>
          go_wp2
          refine bodyPost_ret (v := .tuple #[.int .i64 1, .string bo, .string be]) (by simp [results, Tryd.results144, go_sem]) rfl ⟨by rw [← HC.out]; rfl, BW⟩
    · rw [if_neg h2] at hco
      have HC : Hid (_ = co) := hco
      clear hco
      obtain ⟨t, ht⟩ : ∃ t, u - 192 = t := ⟨_, rfl⟩
      have wt : (u : Int) - 192 = t := by omega
      have wu : IntKind.i64.wrap (u : Int) = u := by rw [IntKind.wrap_i64]; omega
      have wt2 : IntKind.i64.wrap (t : Int) = t := by rw [IntKind.wrap_i64]; omega
      have KC1 := KC t (by omega)
      rw [ht] at HC
      obtain ⟨ca, hca⟩ : ∃ c, cutAt t r = c := ⟨_, rfl⟩
      rw [hca] at HC KC1
      clear KC hca
      go_enter Tryd.func144, Tryd.ntmps144
      have cC : ∀ d os, Calls Tryd.prog 148 #[.int .i64 t, .string r] (grow (redrawn w d) os) fun e w'' => e = .returned (cbR r ca) ∧ ∃ p : Regrown, w'' = grow (redrawn w p.d) p.os := fun d os => Calls.regrown_of (KC1 _)
      clear KC1
      cases ca with
      | none =>
        dsimp only [cbR] at cC
        go_wp2_with fail
        refine wp_region_quiet_below (by kernel_rfl) (by kernel_rfl) ?_
        iterate 6 (quiet_step (fail))
        quiet_step (exact cC _ _)
        repeat (quiet_step (fail))
        refine wpQuiet_nil ?_
        rintro w1 hw1
        have BW : Below w.heap.size w w1 := by
          obtain ⟨p, rfl⟩ := hw1
          exact below_regrown _ _ _
        clear hw1 cC
        go_wp2
        refine bodyPost_ret (v := .tuple #[.int .i64 0, .string ⟨#[]⟩, .string ⟨#[]⟩]) (by simp [results, Tryd.results144, go_sem]) rfl ⟨by rw [← HC.out]; rfl, BW⟩
      | some q =>
        obtain ⟨d, n⟩ := q
        dsimp only [cbR] at cC
        obtain ⟨bo, hbo⟩ : ∃ b, r.extract d (d + n) = b := ⟨_, rfl⟩
        obtain ⟨be, hbe⟩ : ∃ b, r.extract (d + n) r.size = b := ⟨_, rfl⟩
        dsimp only at HC
        rw [hbo, hbe] at HC cC
        clear hbo hbe
        go_wp2_with fail
        refine wp_region_quiet_below (by kernel_rfl) (by kernel_rfl) ?_
        iterate 6 (quiet_step (fail))
        quiet_step (exact cC _ _)
        repeat (quiet_step (fail))
        refine wpQuiet_nil ?_
        rintro w1 hw1
        have BW : Below w.heap.size w w1 := by
          obtain ⟨p, rfl⟩ := hw1
          exact below_regrown _ _ _
        clear hw1 cC
        go_wp2
        refine bodyPost_ret (v := .tuple #[.int .i64 2, .string bo, .string be]) (by simp [results, Tryd.results144, go_sem]) rfl ⟨by rw [← HC.out]; rfl, BW⟩
end Go.Proofs.YtmefanagpkbjeaaDoor
namespace Go.Proofs.YtmefanagpkbjeaaDoor
open Go.RowKit Go.Shelf Go.Sort
attribute [local go_sem] Oper.semAt_some

theorem cutAt_le {told : Nat} {s : ByteArray} {d n : Nat} (h : cutAt told s = some (d, n)) : d + n ≤ s.size := by
  unfold cutAt at h
  split at h
  · split at h
    · cases h
    · cases h
      omega
  · split at h
    · cases h
    · split at h
      · cases h
        omega
      · cases h
theorem cutK_lt (s : ByteArray) (hp : 0 < s.size) : (cutK s).1 ≠ 0 → (cutK s).2.1.size ≤ s.size ∧ ((cutK s).1 = 2 → (cutK s).2.1.size < s.size) ∧ (cutK s).2.2.size < s.size := by
  unfold cutK
  split
  · intro _
    simp
    omega
  · split
    · split
      · intro h
        exact absurd rfl h
      · rename_i d n h
        have := cutAt_le h
        simp at this
        split
        · intro h
          exact absurd rfl h
        · intro _
          simp
          omega
    · split
      · intro h
        exact absurd rfl h
      · rename_i d n h
        have := cutAt_le h
        simp at this
        intro _
        simp
        omega
/-- The parts of bytes. -/
def psF : Nat → ByteArray → List (Nat × ByteArray)
  | 0, _ => []
  | f + 1, s => if s.size = 0 then [] else if (cutK s).1 = 0 then [(0, ⟨#[]⟩)] else ((cutK s).1, (cutK s).2.1) :: psF f (cutK s).2.2
def ps (s : ByteArray) : List (Nat × ByteArray) := psF s.size s
theorem psF_ps : ∀ (f g : Nat) (s : ByteArray), s.size ≤ f → s.size ≤ g → psF f s = psF g s
  | 0, 0, _, _, _ => rfl
  | 0, g + 1, s, h, _ => by
    show [] = if s.size = 0 then _ else _
    rw [if_pos (by omega)]
  | f + 1, 0, s, _, h => by
    show (if s.size = 0 then _ else _) = []
    rw [if_pos (by omega)]
  | f + 1, g + 1, s, h, h' => by
    show (if s.size = 0 then _ else _) = (if s.size = 0 then _ else _)
    split
    · rfl
    · split
      · rfl
      · rename_i h0 h1
        have := cutK_lt s (by omega) h1
        rw [psF_ps f g _ (by omega) (by omega)]
theorem ps_eq (s : ByteArray) : ps s = if s.size = 0 then [] else if (cutK s).1 = 0 then [(0, ⟨#[]⟩)] else ((cutK s).1, (cutK s).2.1) :: ps (cutK s).2.2 := by
  by_cases h : s.size = 0
  · rw [if_pos h]
    unfold ps
    rw [h]
    rfl
  · rw [if_neg h]
    obtain ⟨f, hf⟩ : ∃ f, s.size = f + 1 := ⟨s.size - 1, by omega⟩
    have e : ps s = psF (f + 1) s := by unfold ps; rw [hf]
    rw [e]
    show (if s.size = 0 then _ else _) = _
    rw [if_neg h]
    split
    · rfl
    · rename_i h1
      have := cutK_lt s (by omega) h1
      show _ :: psF f _ = _ :: psF _ _
      rw [psF_ps f _ _ (by omega) (Nat.le_refl _)]
theorem cutK_zero (s : ByteArray) (h : (cutK s).1 = 0) : cutK s = (0, ⟨#[]⟩, ⟨#[]⟩) := by
  revert h
  unfold cutK
  split
  · intro h; cases h
  · split
    · split
      · intro _; rfl
      · split
        · intro _; rfl
        · intro h; cases h
    · split
      · intro _; rfl
      · intro h; cases h
theorem ps_len : ∀ (N : Nat) (s : ByteArray), s.size ≤ N → (ps s).length ≤ s.size
  | 0, s, h => by
    rw [ps_eq, if_pos (by omega)]
    exact Nat.zero_le _
  | N + 1, s, h => by
    rw [ps_eq]
    split
    · exact Nat.zero_le _
    · split
      · show 1 ≤ _
        omega
      · rename_i h0 h1
        have h2 := cutK_lt s (by omega) h1
        have h3 := ps_len N (cutK s).2.2 (by omega)
        show (ps _).length + 1 ≤ _
        omega
def strSz : Value → Nat
  | .string s => s.size
  | _ => 0
def pEnc (e : Nat × ByteArray) : Array Value := #[.int .i64 e.1, .string e.2]

set_option maxRecDepth 100000 in
set_option maxHeartbeats 2000000 in
theorem parts1_in (n l bX : Nat) (s : ByteArray) (hs : s.size < 1000000000000000000) (J Jx : List (Nat × ByteArray) → World → Prop) (B : Nat) (hJ : AbidesFrom B J)
    (hY : ∀ m pre e W, J pre W → pre.length < (ps s).length → e ∈ ps s → YieldAt Fence.wide m Tryd.prog l (pEnc e) W fun e' W' =>
      (e' = .returned (.bool true) ∧ J (pre ++ [e]) W') ∨ (e' = .returned (.bool false) ∧ Jx (pre ++ [e]) W'))
    (W : World) (hc : W.cell? ⟨bX, 0, none⟩ = some (.string s)) (h0 : J [] W) :
    CallsIn Fence.wide n Tryd.prog 143 #[.func (.yield l) #[] #[], .pointer (some ⟨bX, 0, none⟩)] W fun e W' => (∃ v, e = .returned v) ∧
      (J (ps s) W' ∨ (∃ q, q ≤ (ps s).length ∧ Jx ((ps s).take q) W')) := by
  refine callsIn_of_wp Tryd.func143 rfl trivial ?_ rfl
  simp only [Tryd.ntmps143, List.size_toArray, List.length_cons, List.length_nil, Nat.reduceAdd, Nat.reduceSub, Array.replicate_succ, Array.replicate_zero, List.push_toArray, List.append_toArray, List.nil_append, List.cons_append]
  gi_wp2
  gi_loopw [3] (fun v wr => ∃ (r : ByteArray) (pre : List (Nat × ByteArray)), v = .string r ∧ r.size ≤ s.size ∧ ps s = pre ++ ps r ∧ J pre wr) (fun v _ => strSz v)
  case atStart => exact ⟨s, [], rfl, Nat.le_refl _, rfl, h0⟩
  case round =>
    obtain ⟨r, pre, rfl, hr, hpre, hJs⟩ := hrel
    by_cases hz : r.size = 0
    · have he := is_empty r hz
      have he2 := empty_list r hz
      rw [ps_eq r, if_pos hz, List.append_nil] at hpre
      subst he
      have HH : Hid _ := hpre
      clear hpre
      gi_wp2
      go_end0
      exact ⟨⟨_, rfl⟩, .inl (by rw [HH.out]; exact hJs)⟩
    · have hrp : 0 < r.size := by omega
      have hne := ne_empty r hrp
      have KC := cut_any r hrp (by omega)
      have HK := cutK_lt r hrp
      have HZ := cutK_zero r
      rw [ps_eq r, if_neg hz] at hpre
      obtain ⟨⟨k, bo, be⟩, hk⟩ : ∃ c, cutK r = c := ⟨_, rfl⟩
      rw [hk] at KC HK HZ hpre
      dsimp only [ktV] at KC HK HZ hpre
      have HX : Hid (_ ∧ _ ∧ _) := ⟨HK, HZ, hpre⟩
      clear HK HZ hpre hk
      gi_wp2_with fail
      refine ⟨trivial, fun h => (by cases h), (callsIn_wide.2 (KC _)).mono ?_⟩
      rintro e w3 ⟨rfl, B3⟩
      have hJ3 := hJ pre wr w3 none hJs (grown_of B3) (fun _ h => by cases h)
      clear B3 hJs KC
      by_cases hk0 : k = 0
      · subst hk0
        obtain ⟨-, HZ, hpre⟩ := HX.out
        rw [if_pos rfl] at hpre
        have hbe := HZ rfl
        injection hbe with _ hbe
        injection hbe with h1 h2
        subst h1 h2
        obtain ⟨fn, tmps, assign, body, hy, hR⟩ := hY (n - 1) pre (0, ⟨#[]⟩) w3 hJ3 (by rw [hpre, List.length_append]; simp) (by rw [hpre]; simp)
        unfold pEnc at hy
        dsimp only at hy
        rw [show ((0 : Nat) : Int) = 0 from rfl] at hy
        have HJ : Hid (_ ∧ _) := ⟨hJ3, hpre⟩
        clear hJ3 hpre HX HZ
        gi_wp2
        refine ⟨fun h => (by cases h), hR.mono ?_⟩
        rintro e W4 (⟨rfl, hJ4⟩ | ⟨rfl, hJx4⟩)
        · clear hy hR
          gi_wp2
          refine bodyPost_ret (v := .tuple #[]) (by simp [results, Tryd.results143, go_sem]) rfl ⟨⟨_, rfl⟩, .inl ?_⟩
          rw [HJ.out.2]
          exact hJ4
        · clear hy hR
          gi_wp2
          refine bodyPost_ret (v := .tuple #[]) (by simp [results, Tryd.results143, go_sem]) rfl ⟨⟨_, rfl⟩, .inr ⟨pre.length + 1, ?_, ?_⟩⟩
          · rw [HJ.out.2, List.length_append, List.length_cons]
            omega
          · rw [HJ.out.2, List.take_append, List.take_of_length_le (Nat.le_succ _), show pre.length + 1 - pre.length = 1 by omega]
            exact hJx4
      · obtain ⟨HK, -, hpre⟩ := HX.out
        rw [if_neg hk0] at hpre
        obtain ⟨hk1, hk2, hk3⟩ := HK hk0
        have hkb : ((k : Int) == 0) = false := by rw [beq_eq_false_iff_ne]; omega
        obtain ⟨fn, tmps, assign, body, hy, hR⟩ := hY (n - 1) pre (k, bo) w3 hJ3 (by rw [hpre, List.length_append]; simp) (by rw [hpre]; simp)
        unfold pEnc at hy
        have HJ : Hid (_ ∧ _) := ⟨hJ3, hpre⟩
        clear hJ3 hpre HX HK
        gi_wp2
        refine ⟨fun h => (by cases h), hR.mono ?_⟩
        rintro e W4 (⟨rfl, hJ4⟩ | ⟨rfl, hJx4⟩)
        · clear hy hR
          gi_wp2
          go_roundw
          case rel =>
            refine ⟨be, pre ++ [(k, bo)], rfl, by omega, ?_, hJ4⟩
            rw [HJ.out.2, List.append_assoc]
            rfl
          case measure => show be.size < r.size; omega
        · clear hy hR
          gi_wp2
          refine bodyPost_ret (v := .tuple #[]) (by simp [results, Tryd.results143, go_sem]) rfl ⟨⟨_, rfl⟩, .inr ⟨pre.length + 1, ?_, ?_⟩⟩
          · rw [HJ.out.2, List.length_append, List.length_cons]
            omega
          · rw [HJ.out.2, List.take_append, List.take_of_length_le (Nat.le_succ _), show pre.length + 1 - pre.length = 1 by omega]
            exact hJx4
abbrev Pe (s : ByteArray) := { e : Nat × ByteArray // e ∈ ps s }
theorem parts_stops (n bX : Nat) (s : ByteArray) (hs : s.size < 1000000000000000000) (w : World) (hbx : Bx bX 9 (.string s) w) :
    SeqStopsK Fence.wide n Tryd.prog 143 #[.pointer (some ⟨bX, 0, none⟩)] (fun e : Pe s => pEnc e.1) (fun _ _ => True) (fun ys => ys.map (·.1) = ps s) (fun pre => ∃ q, q ≤ (ps s).length ∧ pre.map (·.1) = (ps s).take q) (ps s).length w := fun l J Jx W hW hJ hJx hY h0 => by
  refine (parts1_in n l bX s hs (fun pre0 W => ∃ pre : List (Pe s), pre.map (·.1) = pre0 ∧ J pre W) (fun pre0 W => ∃ pre : List (Pe s), pre.map (·.1) = pre0 ∧ Jx pre W) W.heap.size
    (fun s A C row hs hg hr => by obtain ⟨pre, h1, h2⟩ := hs; exact ⟨pre, h1, hJ pre A C row h2 hg hr⟩)
    (fun m pre0 e W1 hj hl he => by
      obtain ⟨pre, h1, h2⟩ := hj
      have hl' : pre.length < (ps s).length := by rw [← h1, List.length_map] at hl; exact hl
      refine (yieldAny m (hY pre ⟨e, he⟩ W1 h2 hl')).mono fun e' W' h => ?_
      rcases h with ⟨ha, hb, _⟩ | ⟨ha, hb⟩
      · exact .inl ⟨ha, ⟨pre ++ [⟨e, he⟩], by rw [List.map_append, h1]; rfl, hb⟩⟩
      · exact .inr ⟨ha, ⟨pre ++ [⟨e, he⟩], by rw [List.map_append, h1]; rfl, hb⟩⟩) W (Bx.cell ((hW.block bX hbx.lt).trans hbx)) ⟨[], rfl, h0⟩).mono ?_
  rintro e W' ⟨he, ⟨pre, h1, h2⟩ | ⟨q, hq, pre, h1, h2⟩⟩
  · exact ⟨he, .inl ⟨pre, h1, h2⟩⟩
  · exact ⟨he, .inr ⟨pre, ⟨q, hq, h1⟩, h2⟩⟩

set_option maxHeartbeats 1000000 in
theorem parts_any (s : ByteArray) (w : World) :
    Calls Tryd.prog 135 #[.string s] w fun e w' => e = .returned (.func (.func 143) #[] #[.pointer (some ⟨w.heap.size, 0, none⟩)]) ∧ w' = w.alloc (.cells #[.string s] 9) := by
  go_enter Tryd.func135, Tryd.ntmps135
  go_wp2
  go_ret
  exact ⟨rfl, rfl⟩
end Go.Proofs.YtmefanagpkbjeaaDoor
namespace Go.Proofs.YtmefanagpkbjeaaDoor
open Go.RowKit Go.Shelf Go.Sort

theorem append_where {P : Program} (w : World) (base : Nat) (t ty e : TypeId) (i : TypeInfo) (z : Value) (size bytes : Nat) (ht : P.underlying t = some (.slice e)) (hi : P.info? e = some i) (hz : i.zero = some z)
    (hsize : i.size = size) (hby : i.bytes = bytes) (hzs : z.cells.size = size) (hsz : 0 < size)
    (v : Value) (n : Nat) (xs : List Value) (hown : w.ownsRow base e size v n xs)
    (a : Addr) (m c : Nat) (news : List Value) (hl : news.length = m * size) (hnews : ∀ j u, news[j]? = some u → w.cell? (a.add j) = some u) (h1 : ∀ u ∈ news, u.oneCell' = true)
    (h63 : n + m ≤ maxLen) (hbytes : (n + m) * bytes ≤ 140737488355328) (hbase : base ≤ w.heap.size) (hm : 0 < m) :
    ∃ v' w', (Builtin.append_ #[t, t] ty #[v, .slice (some a) m c]).run P w = .ok v' w' ∧ w'.ownsRow base e size v' (n + m) (xs ++ news) ∧ w.grownBy w' v.ownBlock ∧
      v' ≠ .slice none 0 0 ∧ (v'.ownBlock = v.ownBlock ∨ ∃ g, v'.ownBlock = some g ∧ w.heap.size ≤ g) := by
  obtain ⟨v', w', hr, h2, h3, h4⟩ := run_append_own (P := P) w base t ty e i z size bytes ht hi hz hsize hby hzs hsz v n xs hown a m c news hl hnews h1 h63 hbytes hbase
  refine ⟨v', w', hr, h2, h3, fun e => by have := (h4.1 e).2; omega, ?_⟩
  rcases hown.2 with ⟨rfl, rfl⟩ | ⟨g, cap, cur, rfl, hbg, hg, hnc, hcm, hcs, htake⟩
  · have hx : xs = [] := List.eq_nil_of_length_eq_zero (by simpa using hown.1)
    subst hx
    obtain ⟨v2, w2, hr2, k2, -, k4⟩ := run_append_own (P := P) w w.heap.size t ty e i z size bytes ht hi hz hsize hby hzs hsz _ 0 [] (World.ownsRow_nil w w.heap.size e size) a m c news hl hnews h1 h63 hbytes (Nat.le_refl _)
    rw [hr] at hr2
    injection hr2 with e1 e2
    subst e1 e2
    obtain ⟨g, cp, hv⟩ : ∃ g c, v' = .slice (some ⟨g, 0, none⟩) (0 + m) c := by
      rcases k2.2 with ⟨h, _⟩ | ⟨g, c, _, h, _⟩
      · have := (k4.1 h).2
        omega
      · exact ⟨g, c, h⟩
    exact .inr ⟨g, by rw [hv]; rfl, (k2.lt g (by rw [hv]; rfl)).1⟩
  · by_cases hroom : n + m ≤ cap
    · obtain ⟨w2, hr2, -, -⟩ := run_append_fits (P := P) w base t ty e i size ht hi hsize g n cap xs hown a m c news hl hnews h1 hroom
      rw [hr] at hr2
      injection hr2 with e1 e2
      exact .inl (by rw [e1]; rfl)
    · have hr2 := run_append_grow (P := P) w t ty e i z ht hi hz ⟨g, 0, none⟩ n cap xs (by rw [hsize]; exact hown.1) (fun j u hu => hown.cells (g := g) rfl j u hu) a m c news (by rw [hsize]; exact hl) hnews (by omega) (by simp only [maxLen] at h63; omega) (growslice_fits (by omega) (by rw [hby]; omega))
      rw [hr] at hr2
      injection hr2 with e1 e2
      exact .inr ⟨w.heap.size, by rw [e1]; rfl, Nat.le_refl _⟩

theorem wpList_append_where {P : Program} (w : World) {ops : Array Oper} {rest : List Oper} {o : Oper} {a : Act} {Q : Exit → Act → World → Prop} (hgd : o.guard = none) (sl x : Operand) (t : TypeId)
    (ho : o.op = .call { callee := .builtin .append, args := #[sl, x], argTypes := #[t, t] })
    (base : Nat) (e : TypeId) (i : TypeInfo) (z : Value) (size bytes : Nat) (ht : P.underlying t = some (.slice e)) (hi : P.info? e = some i) (hz : i.zero = some z) (hsize : i.size = size) (hby : i.bytes = bytes) (hzs : z.cells.size = size) (hsz : 0 < size)
    (v : Value) (n : Nat) (xs : List Value) (hs : a.eval sl = v) (hown : w.ownsRow base e size v n xs) (ad : Addr) (m c : Nat) (news : List Value) (hx : a.eval x = .slice (some ad) m c) (hl : news.length = m * size)
    (hnews : ∀ j u, news[j]? = some u → w.cell? (ad.add j) = some u) (h1 : ∀ u ∈ news, u.oneCell' = true) (h63 : n + m ≤ maxLen) (hbytes : (n + m) * bytes ≤ 140737488355328) (hbase : base ≤ w.heap.size) (hm : 0 < m)
    (h : ∀ v' w', w'.ownsRow base e size v' (n + m) (xs ++ news) → w.grownBy w' v.ownBlock → v' ≠ .slice none 0 0 → (v'.ownBlock = v.ownBlock ∨ ∃ g, v'.ownBlock = some g ∧ w.heap.size ≤ g) → wpList P ops Q rest (a.put o.dst v') w') : wpList P ops Q (o :: rest) a w := by
  refine wpList_plain hgd fun K hK => ?_
  obtain ⟨v', w', hr, h2, h3, h4, h5⟩ := append_where (P := P) w base t o.type e i z size bytes ht hi hz hsize hby hzs hsz v n xs hown ad m c news hl hnews h1 h63 hbytes hbase hm
  unfold Oper.wp execOp
  simp only [ho, resolve, invoke, builtin, Sem.run_bind, Sem.run_pure, Result.andThen_ok, List.map_toArray, List.map_cons, List.map_nil, hs, hx, hr]
  exact hK _ _ (h v' w' h2 h3 h4 h5)
end Go.Proofs.YtmefanagpkbjeaaDoor
