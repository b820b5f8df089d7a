/- Lemmas: Clash.  -/
import Derived.Test.YtbmapdkcccdmfaaDoorM1
import Derived.Test.YtbmapdkcccdmfaaDoorM10
import Derived.Test.YtbmapdkcccdmfaaDoorM11
import Derived.Test.YtbmapdkcccdmfaaDoorM12
import Derived.Test.YtbmapdkcccdmfaaDoorM13
import Derived.Test.YtbmapdkcccdmfaaDoorM14
import Derived.Test.YtbmapdkcccdmfaaDoorM15
import Derived.Test.YtbmapdkcccdmfaaDoorM16
import Derived.Test.YtbmapdkcccdmfaaDoorM17
import Derived.Test.YtbmapdkcccdmfaaDoorM18
import Derived.Test.YtbmapdkcccdmfaaDoorM19
import Derived.Test.YtbmapdkcccdmfaaDoorM2
import Derived.Test.YtbmapdkcccdmfaaDoorM20
import Derived.Test.YtbmapdkcccdmfaaDoorM21
import Derived.Test.YtbmapdkcccdmfaaDoorM22
import Derived.Test.YtbmapdkcccdmfaaDoorM23
import Derived.Test.YtbmapdkcccdmfaaDoorM24
import Derived.Test.YtbmapdkcccdmfaaDoorM25
import Derived.Test.YtbmapdkcccdmfaaDoorM26
import Derived.Test.YtbmapdkcccdmfaaDoorM29
import Derived.Test.YtbmapdkcccdmfaaDoorM3
import Derived.Test.YtbmapdkcccdmfaaDoorM30
import Derived.Test.YtbmapdkcccdmfaaDoorM33
import Derived.Test.YtbmapdkcccdmfaaDoorM34
import Derived.Test.YtbmapdkcccdmfaaDoorM35
import Derived.Test.YtbmapdkcccdmfaaDoorM36
import Derived.Test.YtbmapdkcccdmfaaDoorM37
import Derived.Test.YtbmapdkcccdmfaaDoorM38
import Derived.Test.YtbmapdkcccdmfaaDoorM39
import Derived.Test.YtbmapdkcccdmfaaDoorM4
import Derived.Test.YtbmapdkcccdmfaaDoorM40
import Derived.Test.YtbmapdkcccdmfaaDoorM41
import Derived.Test.YtbmapdkcccdmfaaDoorM42
import Derived.Test.YtbmapdkcccdmfaaDoorM43
import Derived.Test.YtbmapdkcccdmfaaDoorM44
import Derived.Test.YtbmapdkcccdmfaaDoorM45
import Derived.Test.YtbmapdkcccdmfaaDoorM47
import Derived.Test.YtbmapdkcccdmfaaDoorM48
import Derived.Test.YtbmapdkcccdmfaaDoorM49
import Derived.Test.YtbmapdkcccdmfaaDoorM5
import Derived.Test.YtbmapdkcccdmfaaDoorM6
import Derived.Test.YtbmapdkcccdmfaaDoorM7
import Derived.Test.YtbmapdkcccdmfaaDoorM8
import Derived.Test.YtbmapdkcccdmfaaDoorM9
import Derived.Test.YtbmapdkcccdmfaaDoorRows
import Derived.Laws.StructEq
namespace Go.Proofs.YtbmapdkcccdmfaaDoor
open Go.RowKit Go.Shelf Go.Sort

/-- Texts' digests, as cells. -/
def sumV (xs : List ByteArray) : List Value := (xs.map sumOf).map .string
/-- Have two unlike texts of some one digest? -/
def clB (xs : List ByteArray) : Bool := xs.any fun x => xs.any fun y => decide (x ≠ y ∧ sumOf x = sumOf y)
set_option maxRecDepth 20000 in
set_option maxHeartbeats 1000000 in
theorem clash_any (xs : List ByteArray) (hx : xs.length ≤ 1000000) (hb : ∀ x ∈ xs, x.size ≤ 100000) (a : Option Addr) (c n : Nat) (w : World) (hn : n ≤ w.heap.size) (h1 : slS n w a xs) :
    Calls Tryd.prog 15 #[.slice a xs.length c] w fun e w' => e = .returned (.bool (clB xs)) ∧ Below w.heap.size w w' := by
  obtain ⟨i0, hi0, hz0, hz1, hz2⟩ := info_parts info_text
  obtain ⟨N, hN⟩ : ∃ N, xs.length = N := ⟨_, rfl⟩
  have HN : Hid (xs.length = N) := hN
  rw [hN] at hx ⊢
  clear hN
  obtain ⟨q, hq⟩ : ∃ q, clB xs = q := ⟨_, rfl⟩
  have HQ : Hid _ := hq
  rw [hq]
  clear hq
  obtain ⟨z, hz⟩ : ∃ z, w.heap.size = z := ⟨_, rfl⟩
  rw [hz] at hn ⊢
  have B0 : Below z w w := by rw [← hz]; exact Below.refl _ _
  have HZ : Hid _ := hz
  clear hz
  go_enter Tryd.func15, Tryd.ntmps15
  go_wp2_with fail
  go_loopg [3, 4] N (fun gk v i wr => ∃ k : Nat, k + gk = N ∧ i = .int .i64 k ∧ Below z w wr ∧ z ≤ wr.heap.size ∧ wr.ownsRow z 9 1 v k (sumV (xs.take k)))
  case atStart => exact ⟨0, by omega, rfl, B0, by have := HZ.out; omega, World.ownsRow_nil _ _ _ _⟩
  case round =>
    clear B0
    obtain ⟨k, hk, rfl, BW, hzw, hown⟩ := hrel
    have hr3 : ∀ b, u3.ownBlock = some b → z ≤ b := fun b hb => (hown.lt b hb).1
    by_cases hlt : k < N
    · have l1 : (k : Int) < N := by omega
      obtain ⟨x, hxk⟩ : ∃ f, xs[k]? = some f := ⟨xs[k]'(by have := HN.out; omega), List.getElem?_eq_getElem (by have := HN.out; omega)⟩
      have hxb := hb x (List.mem_of_getElem? hxk)
      obtain ⟨b, o, rfl, hbn, c0⟩ := slS_at h1 k x hxk
      replace c0 := (BW.cell (p := ⟨b, _, none⟩) (by show b < z; omega)).trans c0
      obtain ⟨r, hr⟩ : ∃ p, o + k = p := ⟨_, rfl⟩
      rw [hr] at c0
      have wk : IntKind.i64.wrap ((k : Int) + 1) = ((k + 1 : Nat) : Int) := by rw [IntKind.wrap_i64]; omega
      have KM := rsum_any x hxb
      rw [rsum_is] at KM
      obtain ⟨s, hs⟩ : ∃ s, sumOf x = s := ⟨_, rfl⟩
      rw [hs] at KM
      have hnext : sumV (xs.take (k + 1)) = sumV (xs.take k) ++ [.string s] := by
        unfold sumV
        rw [List.take_add_one, hxk, Option.toList, List.map_append, List.map_append, ← hs]
        rfl
      have HX : Hid _ := hnext
      have HO : Hid _ := hown
      clear hnext hs hxk hxb hown
      go_wp2_with fail
      refine (KM _).mono ?_
      rintro e w3 ⟨rfl, B3⟩
      clear KM c0
      have BW3 := belowStep BW hzw B3
      have A1 := be_new w3 (.cells #[.string s] 9)
      have hnew := World.alloc_heap_new w3 (.cells #[.string s] 9)
      have hown2 := owns_below2 (owns_below2 HO.out B3) A1
      have hs0 := B3.size
      have hs1 := A1.size
      have BW4 := belowStep BW3 (Nat.le_trans hzw hs0) A1
      have HV : Hid (_ ∧ _ ∧ _) := ⟨hown2, hnew, BW4⟩
      clear A1 hnew hown2 BW BW3 BW4 B3 HO
      go_wp2_with (at_builtin; refine wpList_append_where _ rfl _ _ 23 rfl z 9 i0 _ 1 16 Tryd.underlying23 hi0 hz0 hz1 hz2 rfl (by decide) _ k _ rfl HV.out.1 ⟨w3.heap.size, 0, none⟩ 1 1 [.string s] rfl rfl ?c1 ?c2 (by unfold maxLen; omega) (by omega) ?c3 (by decide) ?_)
      case c1 =>
        intro j u hj
        rw [Addr.add_lit, Lib.cell_of_heap HV.out.2.1, Nat.zero_add]
        simpa using hj
      case c2 =>
        intro u hu
        simp only [List.mem_cons, List.not_mem_nil, or_false] at hu
        rw [hu]
        rfl
      case c3 => omega
      intro v' w6 a2 a3 a4 a5
      have HW : Hid (_ ∧ _) := ⟨a2, a3⟩
      clear a2 a3 a4 a5
      go_wp2
      go_roundg (gk - 1)
      case measure => omega
      case rel =>
        obtain ⟨a2, a3⟩ := HW.out
        refine ⟨k + 1, by omega, by first | rfl | (congr 1; omega), HV.out.2.2.grown a3 (by omega) (fun q e => hr3 q e), Nat.le_trans (Nat.le_trans hzw (Nat.le_trans hs0 hs1)) a3.size, ?_⟩
        rw [HX.out]
        exact a2
    · have l1 : ¬ (k : Int) < N := by omega
      obtain rfl : k = N := by omega
      rw [List.take_of_length_le (by have := HN.out; omega)] at hown
      have hlen : (xs.map sumOf).length = k := by rw [List.length_map]; exact HN.out
      have hown3 : wr.ownsRow z 9 1 u3 (xs.map sumOf).length ((xs.map sumOf).map .string) := by rw [hlen]; exact hown
      obtain ⟨a', c', rfl, hs⟩ := slS_owns hown3
      rw [hlen]
      clear hown hown3 hlen hr3
      have HWZ : Hid (_ ∧ _) := ⟨BW, hzw⟩
      have BR := Below.refl wr.heap.size wr
      obtain ⟨z2, hz2'⟩ : ∃ z2, wr.heap.size = z2 := ⟨_, rfl⟩
      rw [hz2'] at hs BR hzw
      have FIN : ∀ w8, Below z2 wr w8 → Below z w w8 := fun w8 h => belowStep HWZ.out.1 HWZ.out.2 (by rw [hz2']; exact h)
      have HFIN : Hid _ := FIN
      have SIZ : ∀ w8, Below z2 wr w8 → z2 ≤ w8.heap.size := fun w8 h => by have := h.size; omega
      have HSIZ : Hid _ := SIZ
      have CX : ∀ (j : Nat) (x : ByteArray), xs[j]? = some x → ∃ b o, a = some ⟨b, o, none⟩ ∧ b < z2 ∧ wr.cell? ⟨b, o + j, none⟩ = some (.string x) := by
        intro j x hj
        obtain ⟨b, o, e, hbn, c0⟩ := slS_at h1 j x hj
        exact ⟨b, o, e, by omega, (HWZ.out.1.cell (p := ⟨b, _, none⟩) (by show b < z; omega)).trans c0⟩
      have HCX : Hid _ := CX
      have CS : ∀ (j : Nat) (x : ByteArray), xs[j]? = some x → ∃ b o, a' = some ⟨b, o, none⟩ ∧ b < z2 ∧ wr.cell? ⟨b, o + j, none⟩ = some (.string (sumOf x)) := by
        intro j x hj
        exact slS_at hs j (sumOf x) (by rw [List.getElem?_map, hj]; rfl)
      have HCS : Hid _ := CS
      have HNX : Hid (∀ j, j < k → ∃ x, xs[j]? = some x) := fun j hj => ⟨xs[j]'(by have := HN.out; omega), List.getElem?_eq_getElem (by have := HN.out; omega)⟩
      clear hs FIN SIZ CX CS BW hz2' h1 hzw hb
      go_wp2_with fail
      go_loopg [5, 6] k (fun gk i v6 wr' => ∃ m : Nat, m + gk = k ∧ i = .int .i64 m ∧ Hid (∀ (i j : Nat) (x y : ByteArray), i < m → j < i → xs[i]? = some x → xs[j]? = some y → ¬ (x ≠ y ∧ sumOf x = sumOf y)) ∧ Below z2 wr wr')
      case atStart => exact ⟨0, by omega, rfl, (fun i j x y h => by omega), BR⟩
      case round =>
        clear BR
        obtain ⟨m, hm, rfl, hA, BW⟩ := hrel
        by_cases hlm : m < k
        · have l2 : (m : Int) < k := by omega
          obtain ⟨og, rfl⟩ : ∃ g, gk = g + 1 := ⟨gk - 1, by omega⟩
          obtain ⟨x, hxm⟩ := HNX.out m hlm
          obtain ⟨b, o, rfl, hb1, c0⟩ := HCX.out m x hxm
          obtain ⟨b2, o2, rfl, hb2, c2⟩ := HCS.out m x hxm
          obtain ⟨r, hr⟩ : ∃ p, o + m = p := ⟨_, rfl⟩
          obtain ⟨r2, hr2⟩ : ∃ p, o2 + m = p := ⟨_, rfl⟩
          rw [hr] at c0
          rw [hr2] at c2
          have wk : IntKind.i64.wrap ((m : Int) + 1) = ((m + 1 : Nat) : Int) := by rw [IntKind.wrap_i64]; omega
          obtain ⟨sx, hsx⟩ : ∃ s, sumOf x = s := ⟨_, rfl⟩
          rw [hsx] at c2
          have HX : Hid (_ ∧ _) := ⟨hxm, hsx⟩
          have HC : Hid (_ ∧ _) := ⟨c0, c2⟩
          clear hxm hsx c0 c2
          go_wp2_with fail
          go_loopg [6] m (fun gm v6 wr' => ∃ j : Nat, j + gm = m ∧ v6 = .int .i64 j ∧ Hid (∀ (i : Nat) (y : ByteArray), i < j → xs[i]? = some y → ¬ (x ≠ y ∧ sumOf x = sumOf y)) ∧ Below z2 _ wr')
          case atStart => exact ⟨0, by omega, rfl, (fun i y h => by omega), BW⟩
          case round =>
            clear BW
            obtain ⟨j, hj, rfl, hA2, BW⟩ := hrel
            have hwz : z2 ≤ wr.heap.size := HSIZ.out _ BW
            by_cases hlj : j < m
            · have l3 : (j : Int) < m := by omega
              have l4 : (j : Int) < k := by omega
              obtain ⟨y, hyj⟩ := HNX.out j (by omega)
              obtain ⟨b', o', e', hb1', c1⟩ := HCX.out j y hyj
              injection e' with e'
              injection e' with e1 e2
              subst e1 e2
              obtain ⟨b2', o2', e', hb2', c3⟩ := HCS.out j y hyj
              injection e' with e'
              injection e' with e1 e2
              subst e1 e2
              obtain ⟨r', hr'⟩ : ∃ p, o + j = p := ⟨_, rfl⟩
              obtain ⟨r2', hr2'⟩ : ∃ p, o2 + j = p := ⟨_, rfl⟩
              rw [hr'] at c1
              rw [hr2'] at c3
              have wk' : IntKind.i64.wrap ((j : Int) + 1) = ((j + 1 : Nat) : Int) := by rw [IntKind.wrap_i64]; omega
              obtain ⟨sy, hsy⟩ : ∃ s, sumOf y = s := ⟨_, rfl⟩
              rw [hsy] at c3
              have HY : Hid (_ ∧ _) := ⟨hyj, hsy⟩
              clear hyj hsy
              have hbv : b < wr.heap.size := by omega
              have hbv' : b2 < wr.heap.size := by omega
              have d0 := (BW.cell (p := ⟨b, r, none⟩) (by show b < z2; omega)).trans HC.out.1
              have d1 := (BW.cell (p := ⟨b, r', none⟩) (by show b < z2; omega)).trans c1
              have d2 := (BW.cell (p := ⟨b2, r2, none⟩) (by show b2 < z2; omega)).trans HC.out.2
              have d3 := (BW.cell (p := ⟨b2, r2', none⟩) (by show b2 < z2; omega)).trans c3
              have q0 : ∀ d os, (grow (redrawn wr d) os).cell? ⟨b, r, none⟩ = some (.string x) := fun d os => ((below_regrown wr d os).cell (p := ⟨b, r, none⟩) hbv).trans d0
              have q1 : ∀ d os, (grow (redrawn wr d) os).cell? ⟨b, r', none⟩ = some (.string y) := fun d os => ((below_regrown wr d os).cell (p := ⟨b, r', none⟩) hbv).trans d1
              have q2 : ∀ d os, (grow (redrawn wr d) os).cell? ⟨b2, r2, none⟩ = some (.string sx) := fun d os => ((below_regrown wr d os).cell (p := ⟨b2, r2, none⟩) hbv').trans d2
              have q3 : ∀ d os, (grow (redrawn wr d) os).cell? ⟨b2, r2', none⟩ = some (.string sy) := fun d os => ((below_regrown wr d os).cell (p := ⟨b2, r2', none⟩) hbv').trans d3
              clear c1 c3 d0 d1 d2 d3
              by_cases e1 : x = y
              · have s1 : (x.toList == y.toList) = true := by rw [e1]; exact beq_self_eq_true _
                have HD : Hid (¬ (x ≠ y ∧ sumOf x = sumOf y)) := fun h => h.1 e1
                clear e1
                go_wp2_with fail
                refine wp_region_quiet_below (by kernel_rfl) (by kernel_rfl) ?_
                repeat (go_big_quiet_step (fail))
                refine wpQuiet_nil ?_
                intro w8 hw8
                have B8 : Below wr.heap.size wr w8 := by
                  obtain ⟨p, rfl⟩ := hw8
                  exact below_regrown _ _ _
                have BW8 := belowStep BW hwz B8
                clear hw8 q0 q1 q2 q3
                go_wp2
                go_roundg (gk - 1)
                case measure => omega
                case rel =>
                  refine ⟨j + 1, by omega, by first | rfl | (congr 1; omega), ?_, BW8⟩
                  intro i y' hi hy'
                  by_cases ei : i = j
                  · subst ei
                    rw [HY.out.1] at hy'
                    cases hy'
                    exact HD.out
                  · exact hA2.out i y' (by omega) hy'
              · have s1 : (x.toList == y.toList) = false := by rw [beq_eq_false_iff_ne]; exact fun e => e1 (toList_inj e)
                by_cases e2 : sx = sy
                · have s2 : (sx.toList == sy.toList) = true := by rw [e2]; exact beq_self_eq_true _
                  have hqt : q = true := by
                    rw [← HQ.out, clB, List.any_eq_true]
                    refine ⟨x, List.mem_of_getElem? HX.out.1, ?_⟩
                    rw [List.any_eq_true]
                    exact ⟨y, List.mem_of_getElem? HY.out.1, decide_eq_true ⟨e1, by rw [HX.out.2, HY.out.2]; exact e2⟩⟩
                  have HD : Hid (q = true) := hqt
                  clear e1 e2 hqt
                  go_wp2_with fail
                  refine wp_region_quiet_below (by kernel_rfl) (by kernel_rfl) ?_
                  repeat (go_big_quiet_step (fail))
                  refine wpQuiet_nil ?_
                  intro w8 hw8
                  have B8 : Below wr.heap.size wr w8 := by
                    obtain ⟨p, rfl⟩ := hw8
                    exact below_regrown _ _ _
                  have BW8 := belowStep BW hwz B8
                  clear hw8 q0 q1 q2 q3
                  go_wp2
                  go_ret
                  exact ⟨by rw [HD.out]; rfl, HFIN.out _ BW8⟩
                · have s2 : (sx.toList == sy.toList) = false := by rw [beq_eq_false_iff_ne]; exact fun e => e2 (toList_inj e)
                  have HD : Hid (¬ (x ≠ y ∧ sumOf x = sumOf y)) := fun h => e2 (by rw [← HX.out.2, ← HY.out.2]; exact h.2)
                  clear e1 e2
                  go_wp2_with fail
                  refine wp_region_quiet_below (by kernel_rfl) (by kernel_rfl) ?_
                  repeat (go_big_quiet_step (fail))
                  refine wpQuiet_nil ?_
                  intro w8 hw8
                  have B8 : Below wr.heap.size wr w8 := by
                    obtain ⟨p, rfl⟩ := hw8
                    exact below_regrown _ _ _
                  have BW8 := belowStep BW hwz B8
                  clear hw8 q0 q1 q2 q3
                  go_wp2
                  go_roundg (gk - 1)
                  case measure => omega
                  case rel =>
                    refine ⟨j + 1, by omega, by first | rfl | (congr 1; omega), ?_, BW8⟩
                    intro i y' hi hy'
                    by_cases ei : i = j
                    · subst ei
                      rw [HY.out.1] at hy'
                      cases hy'
                      exact HD.out
                    · exact hA2.out i y' (by omega) hy'
            · have l3 : ¬ (j : Int) < m := by omega
              go_wp2
              go_roundg og
              case measure => omega
              case rel =>
                refine ⟨m + 1, by omega, by first | rfl | (congr 1; omega), ?_, BW⟩
                intro i j' x' y' hi hj' hx' hy'
                by_cases ei : i = m
                · subst ei
                  rw [HX.out.1] at hx'
                  cases hx'
                  exact hA2.out j' y' (by omega) hy'
                · exact hA.out i j' x' y' (by omega) hj' hx' hy'
        · have l2 : ¬ (m : Int) < k := by omega
          have hqf : q = false := by
            rw [← HQ.out, clB, List.any_eq_false]
            intro x hx
            rw [Bool.not_eq_true, List.any_eq_false]
            intro y hy
            rw [Bool.not_eq_true]
            refine decide_eq_false fun h => ?_
            obtain ⟨i, hi⟩ := List.mem_iff_getElem?.1 hx
            obtain ⟨j, hj⟩ := List.mem_iff_getElem?.1 hy
            have := (List.getElem?_eq_some_iff.1 hi).1
            have := (List.getElem?_eq_some_iff.1 hj).1
            have := HN.out
            rcases Nat.lt_trichotomy i j with c | c | c
            · exact hA.out j i y x (by omega) c hj hi ⟨fun e => h.1 e.symm, h.2.symm⟩
            · subst c
              rw [hi] at hj
              exact h.1 (Option.some.inj hj)
            · exact hA.out i j x y (by omega) c hi hj h
          have HG : Hid (q = false) := hqf
          clear hqf
          go_wp2
          go_ret
          exact ⟨by rw [HG.out]; rfl, HFIN.out _ BW⟩
end Go.Proofs.YtbmapdkcccdmfaaDoor
namespace Go.Proofs.YtbmapdkcccdmfaaDoor
open Go.RowKit Go.Shelf Go.Sort

theorem wpList_append_ran {P : Program} {w : World} {ops : Array Oper} {rest : List Oper} {o : Oper} {a : Act} {Q : Exit → Act → World → Prop} (hgd : o.guard = none) (sl x : Operand) (t u : TypeId)
    (ho : o.op = .call { callee := .builtin .append, args := #[sl, x], argTypes := #[t, u] }) (v y v' : Value) (w' : World) (hs : a.eval sl = v) (hx : a.eval x = y)
    (hr : (Builtin.append_ #[t, u] o.type #[v, y]).run P w = .ok v' w') (h : wpList P ops Q rest (a.put o.dst v') w') : wpList P ops Q (o :: rest) a w := by
  refine wpList_plain hgd fun K hK => ?_
  unfold Oper.wp execOp
  simp only [ho, resolve, invoke, builtin, Sem.run_bind, Sem.run_pure, Result.andThen_ok, List.map_toArray, List.map_cons, List.map_nil, hs, hx, hr]
  exact hK _ _ h
theorem owns_cap {W : World} {z e n m c : Nat} {a : Option Addr} {xs : List Value} (h : W.ownsRow z e 1 (.slice a m c) n xs) : m ≤ c := by
  rcases h.2 with ⟨h1, _⟩ | ⟨g, cap, cur, h1, _, _, h4, _⟩
  · cases h1; exact Nat.le_refl _
  · cases h1; exact h4
theorem owns_slice {W : World} {z e n : Nat} {v : Value} {xs : List Value} (h : W.ownsRow z e 1 v n xs) : ∃ a c, v = .slice a n c := by
  rcases h.2 with ⟨h1, h2⟩ | ⟨g, c, cur, h1, _⟩
  · exact ⟨none, 0, by rw [h1, h2]⟩
  · exact ⟨_, c, h1⟩
/-- Nothing behind a slice leaves it. -/
theorem run_append_zero {P : Program} (w : World) (t ty e : TypeId) (i : TypeInfo) (ht : P.underlying t = some (.slice e)) (hi : P.info? e = some i) (b : Option Addr) (n c : Nat) (hc : n ≤ c) (a' : Option Addr) (c' : Nat) :
    (Builtin.append_ #[t, t] ty #[.slice b n c, .slice a' 0 c']).run P w = .ok (.slice b n c) w := by
  have hroom : ¬ c < n := Nat.not_lt.2 hc
  cases a' with
  | none => cases b <;> simp [Builtin.append_, run_underlying ht, sizeOf, typeInfo, hi, Builtin.lenOf, Builtin.firstCells, hroom, storeCells]
  | some a' => cases b <;> simp [Builtin.append_, run_underlying ht, sizeOf, typeInfo, hi, Builtin.lenOf, Builtin.firstCells, hroom, storeCells, loadCells, loadCellsFrom]
/-- A list of texts behind a row of texts. -/
theorem wpList_append_list {ops : Array Oper} {rest : List Oper} {o : Oper} {act : Act} {Q : Exit → Act → World → Prop} {W : World} (hgd : o.guard = none) (s x : Operand) (ho : o.op = .call { callee := .builtin .append, args := #[s, x], argTypes := #[23, 23] })
    (z : Nat) (v : Value) (hv : act.eval s = v) (k : Nat) (ys : List Value) (hown : W.ownsRow z 9 1 v k ys) (xs : List ByteArray) (a : Option Addr) (m c n : Nat) (hm : xs.length = m) (hx : act.eval x = .slice a m c) (hs : slS n W a xs) (hk : k ≤ 1000000) (hl : m ≤ 1000000) (hz : z ≤ W.heap.size)
    (hK : ∀ v' w', w'.ownsRow z 9 1 v' (k + m) (ys ++ xs.map .string) → W.grownBy w' v.ownBlock → wpList Tryd.prog ops Q rest (act.put o.dst v') w') : wpList Tryd.prog ops Q (o :: rest) act W := by
  obtain ⟨i0, hi0, hz0, hz1, hz2⟩ := info_parts info_text
  subst hm
  rcases hs with e | ⟨b, off, rfl, hb, hcl⟩
  · subst e
    obtain ⟨a1, c1, rfl⟩ := owns_slice hown
    refine wpList_append_ran hgd s x 23 23 ho _ _ _ _ hv hx (run_append_zero W 23 o.type 9 i0 Tryd.underlying23 hi0 a1 k c1 (owns_cap hown) a c) ?_
    exact hK _ _ (by rw [List.map_nil, List.append_nil]; exact hown) ⟨rfl, rfl, rfl, Nat.le_refl _, fun _ _ _ => rfl⟩
  · refine wpList_append_own _ hgd s x 23 ho z 9 i0 (.string ⟨#[]⟩) 1 16 Tryd.underlying23 hi0 hz0 hz1 hz2 rfl (by decide) v k ys hv hown ⟨b, off, none⟩ xs.length c (xs.map .string) hx (by rw [List.length_map, Nat.mul_one]) (fun j u hu => ?_) (fun u hu => ?_) (by unfold maxLen; omega) (by omega) hz ?_
    · rw [Addr.add_mid]
      rw [List.getElem?_map] at hu
      cases hxj : xs[j]? with
      | none => rw [hxj] at hu; cases hu
      | some y =>
        rw [hxj] at hu
        cases hu
        exact hcl j y hxj
    · obtain ⟨y, _, rfl⟩ := List.mem_map.1 hu
      rfl
    · intro v' w' h1 h2 _
      exact hK v' w' h1 h2
theorem own_text (w : World) (s : ByteArray) : (w.alloc (.cells #[.string s] 9)).ownsRow w.heap.size 9 1 (.slice (some ⟨w.heap.size, 0, none⟩) 1 1) 1 [.string s] :=
  ⟨rfl, .inr ⟨_, 1, #[.string s], rfl, Nat.le_refl _, World.alloc_heap_new w _, Nat.le_refl _, by decide, rfl, rfl⟩⟩
mutual
theorem allN_small : ∀ (n : Nd) (t : ByteArray), t ∈ allN n → t.size ≤ 65536
  | .mk x ss, t, h => by
    rcases List.mem_append.1 (show t ∈ ownT x ++ allS ss from h) with h | h
    · unfold ownT at h
      split at h
      · cases h
      · rw [List.mem_singleton.1 h]
        exact eS_size x
    · exact allS_small ss t h
theorem allS_small : ∀ (ss : Sts) (t : ByteArray), t ∈ allS ss → t.size ≤ 65536
  | .nil, t, h => by cases h
  | .cons p n r, t, h => by
    rcases List.mem_append.1 (show t ∈ allN n ++ allS r from h) with h | h
    · exact allN_small n t h
    · exact allS_small r t h
end
theorem td_small (es : List Pr) : ∀ t ∈ tdS true nodesL es, t.size ≤ 65536 := fun t ht => by
  have h : t ∈ wyL nodesL (srt es) := ht
  unfold wyL at h
  split at h
  · cases h
  · unfold nodesL at h
    rcases List.mem_cons.1 h with rfl | h
    · exact eS_size _
    · exact allS_small _ t h
theorem lit_grown {w x : World} {s : ByteArray} (h : (w.alloc (.cells #[.string s] 9)).grownBy x (some w.heap.size)) : Below w.heap.size w x :=
  ((Below.refl _ w).alloc (Nat.le_refl _) _).grown h (by simp) (fun k e => by cases e; exact Nat.le_refl _)
theorem slP_take {n : Nat} {W : World} {a : Option Addr} {es : List Pr} (h : slP n W a es) (k : Nat) : slP n W a (es.take k) := by
  rcases h with h | ⟨b, o, h1, h2, h3⟩
  · exact .inl (by rw [h, List.take_nil])
  · refine .inr ⟨b, o, h1, h2, fun j e he => h3 j e ?_⟩
    rw [List.getElem?_take] at he
    split at he
    · exact he
    · cases he

end Go.Proofs.YtbmapdkcccdmfaaDoor
