/- Lemmas: within. Clash. Every node's list is encoded: right, not deep, small. Paths' forms tell their paths. -/
import Derived.Test.YtbpcciifaekffaaGreatDoorM1
import Derived.Test.YtbpcciifaekffaaGreatDoorM10
import Derived.Test.YtbpcciifaekffaaGreatDoorM11
import Derived.Test.YtbpcciifaekffaaGreatDoorM12
import Derived.Test.YtbpcciifaekffaaGreatDoorM13
import Derived.Test.YtbpcciifaekffaaGreatDoorM14
import Derived.Test.YtbpcciifaekffaaGreatDoorM15
import Derived.Test.YtbpcciifaekffaaGreatDoorM16
import Derived.Test.YtbpcciifaekffaaGreatDoorM17
import Derived.Test.YtbpcciifaekffaaGreatDoorM18
import Derived.Test.YtbpcciifaekffaaGreatDoorM19
import Derived.Test.YtbpcciifaekffaaGreatDoorM2
import Derived.Test.YtbpcciifaekffaaGreatDoorM20
import Derived.Test.YtbpcciifaekffaaGreatDoorM21
import Derived.Test.YtbpcciifaekffaaGreatDoorM22
import Derived.Test.YtbpcciifaekffaaGreatDoorM23
import Derived.Test.YtbpcciifaekffaaGreatDoorM24
import Derived.Test.YtbpcciifaekffaaGreatDoorM25
import Derived.Test.YtbpcciifaekffaaGreatDoorM26
import Derived.Test.YtbpcciifaekffaaGreatDoorM27
import Derived.Test.YtbpcciifaekffaaGreatDoorM28
import Derived.Test.YtbpcciifaekffaaGreatDoorM29
import Derived.Test.YtbpcciifaekffaaGreatDoorM3
import Derived.Test.YtbpcciifaekffaaGreatDoorM30
import Derived.Test.YtbpcciifaekffaaGreatDoorM31
import Derived.Test.YtbpcciifaekffaaGreatDoorM32
import Derived.Test.YtbpcciifaekffaaGreatDoorM33
import Derived.Test.YtbpcciifaekffaaGreatDoorM34
import Derived.Test.YtbpcciifaekffaaGreatDoorM35
import Derived.Test.YtbpcciifaekffaaGreatDoorM36
import Derived.Test.YtbpcciifaekffaaGreatDoorM37
import Derived.Test.YtbpcciifaekffaaGreatDoorM38
import Derived.Test.YtbpcciifaekffaaGreatDoorM39
import Derived.Test.YtbpcciifaekffaaGreatDoorM4
import Derived.Test.YtbpcciifaekffaaGreatDoorM40
import Derived.Test.YtbpcciifaekffaaGreatDoorM41
import Derived.Test.YtbpcciifaekffaaGreatDoorM42
import Derived.Test.YtbpcciifaekffaaGreatDoorM43
import Derived.Test.YtbpcciifaekffaaGreatDoorM44
import Derived.Test.YtbpcciifaekffaaGreatDoorM45
import Derived.Test.YtbpcciifaekffaaGreatDoorM46
import Derived.Test.YtbpcciifaekffaaGreatDoorM47
import Derived.Test.YtbpcciifaekffaaGreatDoorM5
import Derived.Test.YtbpcciifaekffaaGreatDoorM6
import Derived.Test.YtbpcciifaekffaaGreatDoorM7
import Derived.Test.YtbpcciifaekffaaGreatDoorM8
import Derived.Test.YtbpcciifaekffaaGreatDoorM9
import Derived.Test.YtbpcciifaekffaaGreatDoorRows
import Derived.Test.YtbpcciifaekffaaGreatDoorM48
import Derived.Test.YtbpcciifaekffaaGreatDoorM49
import Derived.Test.YtbpcciifaekffaaGreatDoorM50
import Derived.Test.YtbpcciifaekffaaGreatDoorM51
import Derived.Test.YtbpcciifaekffaaGreatDoorM52
import Derived.Laws.StructEq
namespace Go.Proofs.YtbpcciifaekffaaGreatDoor
open Go.RowKit Go.Shelf Go.Sort

/-- Is each pair of a list one of another one? -/
def wnB (es ms : List Pr) : Bool := es.all fun e => ms.any fun f => decide (e = f)
set_option maxRecDepth 20000 in
set_option maxHeartbeats 1000000 in
theorem wn6_any (es ms : List Pr) (hx : es.length ≤ 1000) (hy : ms.length ≤ 1000) (a a' : Option Addr) (c c' n : Nat) (w : World) (hn : n ≤ w.heap.size) (h1 : slP n w a es) (h2 : slP n w a' ms) :
    Calls Tryz.prog 21 #[.slice a es.length c, .slice a' ms.length c'] w fun e w' => e = .returned (.bool (wnB es ms)) ∧ Below w.heap.size w w' := by
  obtain ⟨N, hN⟩ : ∃ N, es.length = N := ⟨_, rfl⟩
  obtain ⟨M, hM⟩ : ∃ M, ms.length = M := ⟨_, rfl⟩
  have HN : Hid (es.length = N ∧ ms.length = M) := ⟨hN, hM⟩
  rw [hN] at hx ⊢
  rw [hM] at hy ⊢
  clear hN hM
  obtain ⟨q, hq⟩ : ∃ q, wnB es ms = q := ⟨_, rfl⟩
  have HQ : Hid _ := hq
  rw [hq]
  clear hq
  obtain ⟨z, hz⟩ : ∃ z, w.heap.size = z := ⟨_, rfl⟩
  rw [hz] at hn ⊢
  have B0 : Below z w w := by rw [← hz]; exact Below.refl _ _
  have HZ : Hid _ := hz
  clear hz
  go_enter Tryz.func21, Tryz.ntmps21
  go_wp2_with fail
  go_loopg [5, 6, 7] N (fun gk i v6 v7 wr => ∃ k : Nat, k + gk = N ∧ i = .int .i64 k ∧ Hid (∀ (j : Nat) (e : Pr), j < k → es[j]? = some e → ms.any (fun f => decide (e = f)) = true) ∧ Below z w wr)
  case atStart => exact ⟨0, by omega, rfl, (fun j e h => by omega), B0⟩
  case round =>
    obtain ⟨k, hk, rfl, hA, BW⟩ := hrel
    have hwz : z ≤ wr.heap.size := by have := BW.size; have := HZ.out; omega
    by_cases hlt : k < N
    · have l1 : (k : Int) < N := by omega
      obtain ⟨og, rfl⟩ : ∃ g, gk = g + 1 := ⟨gk - 1, by omega⟩
      obtain ⟨f, hf⟩ : ∃ f, es[k]? = some f := ⟨es[k]'(by have := HN.out; omega), List.getElem?_eq_getElem (by have := HN.out; omega)⟩
      obtain ⟨b, o, rfl, hb, c0, c1⟩ := slP_at h1 k f hf
      obtain ⟨r, hr⟩ : ∃ p, o + 2 * k = p := ⟨_, rfl⟩
      rw [hr] at c0 c1
      have hr2 : o + k * 2 = r := by omega
      have wk : IntKind.i64.wrap ((k : Int) + 1) = ((k + 1 : Nat) : Int) := by rw [IntKind.wrap_i64]; omega
      obtain ⟨fk, fv⟩ := f
      dsimp only at c0 c1
      have HF : Hid (es[k]? = some (fk, fv)) := hf
      have HC : Hid (_ ∧ _) := ⟨c0, c1⟩
      clear hf c0 c1
      go_wp2_with fail
      go_loopg [6, 7] M (fun gm v6 v7 wr' => ∃ m : Nat, m + gm = M ∧ v7 = .int .i64 m ∧ v6 = .bool ((ms.take m).any fun g => decide ((fk, fv) = g)) ∧ Below z w wr')
      case atStart => exact ⟨0, by omega, rfl, rfl, BW⟩
      case round =>
        clear BW hwz
        obtain ⟨m, hm, rfl, rfl, BW⟩ := hrel
        have hwz : z ≤ wr.heap.size := by have := BW.size; have := HZ.out; omega
        obtain ⟨q6, hq6⟩ : ∃ x, ((ms.take m).any fun g => decide ((fk, fv) = g)) = x := ⟨_, rfl⟩
        rw [hq6]
        have H6 : Hid _ := hq6
        clear hq6
        by_cases hlm : m < M
        · have l2 : (m : Int) < M := by omega
          obtain ⟨g, hg⟩ : ∃ f, ms[m]? = some f := ⟨ms[m]'(by have := HN.out; omega), List.getElem?_eq_getElem (by have := HN.out; omega)⟩
          obtain ⟨b', o', rfl, hb', c0', c1'⟩ := slP_at h2 m g hg
          obtain ⟨r', hr'⟩ : ∃ p, o' + 2 * m = p := ⟨_, rfl⟩
          rw [hr'] at c0' c1'
          have hr2' : o' + m * 2 = r' := by omega
          have wk' : IntKind.i64.wrap ((m : Int) + 1) = ((m + 1 : Nat) : Int) := by rw [IntKind.wrap_i64]; omega
          obtain ⟨gk', gv⟩ := g
          dsimp only at c0' c1'
          have hbv : b < wr.heap.size := by omega
          have hbv' : b' < wr.heap.size := by omega
          have c0 := (BW.cell (p := ⟨b, r, none⟩) (by show b < z; omega)).trans HC.out.1
          have c1 := (BW.cell (p := ⟨b, r + 1, none⟩) (by show b < z; omega)).trans HC.out.2
          replace c0' := (BW.cell (p := ⟨b', _, none⟩) (by show b' < z; omega)).trans c0'
          replace c1' := (BW.cell (p := ⟨b', _, none⟩) (by show b' < z; omega)).trans c1'
          have h61 : ((ms.take (m + 1)).any fun g => decide ((fk, fv) = g)) = (q6 || decide ((fk, fv) = (gk', gv))) := by
            rw [List.take_add_one, hg, Option.toList, List.any_append, H6.out]
            simp
          have H61 : Hid _ := h61
          clear h61 hg
          have q0 : ∀ d os, (grow (redrawn wr d) os).cell? ⟨b, r, none⟩ = some (.string fk) := fun d os => ((below_regrown wr d os).cell (p := ⟨b, r, none⟩) hbv).trans c0
          have q1 : ∀ d os, (grow (redrawn wr d) os).cell? ⟨b, r + 1, none⟩ = some (.string fv) := fun d os => ((below_regrown wr d os).cell (p := ⟨b, r + 1, none⟩) hbv).trans c1
          have q2 : ∀ d os, (grow (redrawn wr d) os).cell? ⟨b', r', none⟩ = some (.string gk') := fun d os => ((below_regrown wr d os).cell (p := ⟨b', r', none⟩) hbv').trans c0'
          have q3 : ∀ d os, (grow (redrawn wr d) os).cell? ⟨b', r' + 1, none⟩ = some (.string gv) := fun d os => ((below_regrown wr d os).cell (p := ⟨b', r' + 1, none⟩) hbv').trans c1'
          clear c0 c1 c0' c1'
          cases q6 with
          | true =>
            go_wp2_with fail
            refine wp_region_quiet_below (by kernel_rfl) (by kernel_rfl) ?_
            repeat (go_big_quiet_step (fail))
            refine wpQuiet_nil ?_
            intro w8 hw8
            have B8 : Below wr.heap.size wr w8 := by
              obtain ⟨p, rfl⟩ := hw8
              exact below_regrown _ _ _
            have BW8 := belowStep BW hwz B8
            clear hw8 q0 q1 q2 q3
            go_wp2
            go_roundg (gk - 1)
            case measure => omega
            case rel =>
              refine ⟨m + 1, by omega, by first | rfl | (congr 1; omega), ?_, BW8⟩
              rw [H61.out]
              rfl
          | false =>
            by_cases e1 : fk = gk'
            · have s1 : (fk.toList == gk'.toList) = true := by rw [e1]; exact beq_self_eq_true _
              by_cases e2 : fv = gv
              · have s2 : (fv.toList == gv.toList) = true := by rw [e2]; exact beq_self_eq_true _
                have HD : Hid (decide ((fk, fv) = (gk', gv)) = true) := decide_eq_true (by rw [e1, e2])
                clear e1 e2
                go_wp2_with fail
                refine wp_region_quiet_below (by kernel_rfl) (by kernel_rfl) ?_
                repeat (go_big_quiet_step (fail))
                refine wpQuiet_nil ?_
                intro w8 hw8
                have B8 : Below wr.heap.size wr w8 := by
                  obtain ⟨p, rfl⟩ := hw8
                  exact below_regrown _ _ _
                have BW8 := belowStep BW hwz B8
                clear hw8 q0 q1 q2 q3
                go_wp2
                go_roundg (gk - 1)
                case measure => omega
                case rel =>
                  refine ⟨m + 1, by omega, by first | rfl | (congr 1; omega), ?_, BW8⟩
                  rw [H61.out, HD.out]
                  rfl
              · have s2 : (fv.toList == gv.toList) = false := by rw [beq_eq_false_iff_ne]; exact fun e => e2 (toList_inj e)
                have HD : Hid (decide ((fk, fv) = (gk', gv)) = false) := decide_eq_false (fun e => e2 (Prod.mk.inj e).2)
                clear e1 e2
                go_wp2_with fail
                refine wp_region_quiet_below (by kernel_rfl) (by kernel_rfl) ?_
                repeat (go_big_quiet_step (fail))
                refine wpQuiet_nil ?_
                intro w8 hw8
                have B8 : Below wr.heap.size wr w8 := by
                  obtain ⟨p, rfl⟩ := hw8
                  exact below_regrown _ _ _
                have BW8 := belowStep BW hwz B8
                clear hw8 q0 q1 q2 q3
                go_wp2
                go_roundg (gk - 1)
                case measure => omega
                case rel =>
                  refine ⟨m + 1, by omega, by first | rfl | (congr 1; omega), ?_, BW8⟩
                  rw [H61.out, HD.out]
                  rfl
            · have s1 : (fk.toList == gk'.toList) = false := by rw [beq_eq_false_iff_ne]; exact fun e => e1 (toList_inj e)
              have HD : Hid (decide ((fk, fv) = (gk', gv)) = false) := decide_eq_false (fun e => e1 (Prod.mk.inj e).1)
              clear e1
              go_wp2_with fail
              refine wp_region_quiet_below (by kernel_rfl) (by kernel_rfl) ?_
              repeat (go_big_quiet_step (fail))
              refine wpQuiet_nil ?_
              intro w8 hw8
              have B8 : Below wr.heap.size wr w8 := by
                obtain ⟨p, rfl⟩ := hw8
                exact below_regrown _ _ _
              have BW8 := belowStep BW hwz B8
              clear hw8 q0 q1 q2 q3
              go_wp2
              go_roundg (gk - 1)
              case measure => omega
              case rel =>
                refine ⟨m + 1, by omega, by first | rfl | (congr 1; omega), ?_, BW8⟩
                rw [H61.out, HD.out]
                rfl
        · have l2 : ¬ (m : Int) < M := by omega
          have hmM : ms.take m = ms := List.take_of_length_le (by have := HN.out; omega)
          have H7 := H6.out
          rw [hmM] at H7
          have H8 : Hid _ := H7
          clear hmM H7
          cases q6 with
          | true =>
            go_wp2
            go_roundg og
            case measure => omega
            case rel =>
              refine ⟨k + 1, by omega, by first | rfl | (congr 1; omega), ?_, BW⟩
              intro j e hj he
              by_cases ek : j = k
              · subst ek
                rw [HF.out] at he
                cases he
                exact H8.out
              · exact hA.out j e (by omega) he
          | false =>
            have hqf : q = false := by
              rw [← HQ.out, wnB, List.all_eq_false]
              exact ⟨(fk, fv), List.mem_of_getElem? HF.out, by rw [H8.out]; decide⟩
            have HG : Hid (q = false) := hqf
            clear hqf
            go_wp2
            go_ret
            exact ⟨by rw [HG.out]; rfl, BW⟩
    · have l1 : ¬ (k : Int) < N := by omega
      have hqf : q = true := by
        rw [← HQ.out, wnB, List.all_eq_true]
        intro e he
        obtain ⟨j, hj⟩ := List.mem_iff_getElem?.1 he
        refine hA.out j e ?_ hj
        have := (List.getElem?_eq_some_iff.1 hj).1
        have := HN.out
        omega
      have HG : Hid (q = true) := hqf
      clear hqf
      go_wp2
      go_ret
      exact ⟨by rw [HG.out]; rfl, BW⟩
end Go.Proofs.YtbpcciifaekffaaGreatDoor
namespace Go.Proofs.YtbpcciifaekffaaGreatDoor
open Go.RowKit Go.Shelf Go.Sort

/-- Texts' digests, as cells. -/
def sumV (xs : List ByteArray) : List Value := (xs.map sumOf).map .string
/-- Have two unlike texts of some one digest? -/
def clB (xs : List ByteArray) : Bool := xs.any fun x => xs.any fun y => decide (x ≠ y ∧ sumOf x = sumOf y)
set_option maxRecDepth 20000 in
set_option maxHeartbeats 1000000 in
theorem clash_any (xs : List ByteArray) (hx : xs.length ≤ 1000000) (hb : ∀ x ∈ xs, x.size ≤ 100000) (a : Option Addr) (c n : Nat) (w : World) (hn : n ≤ w.heap.size) (h1 : slS n w a xs) :
    Calls Tryz.prog 22 #[.slice a xs.length c] w fun e w' => e = .returned (.bool (clB xs)) ∧ Below w.heap.size w w' := by
  obtain ⟨i0, hi0, hz0, hz1, hz2⟩ := info_parts info_text
  obtain ⟨N, hN⟩ : ∃ N, xs.length = N := ⟨_, rfl⟩
  have HN : Hid (xs.length = N) := hN
  rw [hN] at hx ⊢
  clear hN
  obtain ⟨q, hq⟩ : ∃ q, clB xs = q := ⟨_, rfl⟩
  have HQ : Hid _ := hq
  rw [hq]
  clear hq
  obtain ⟨z, hz⟩ : ∃ z, w.heap.size = z := ⟨_, rfl⟩
  rw [hz] at hn ⊢
  have B0 : Below z w w := by rw [← hz]; exact Below.refl _ _
  have HZ : Hid _ := hz
  clear hz
  go_enter Tryz.func22, Tryz.ntmps22
  go_wp2_with fail
  go_loopg [3, 4] N (fun gk v i wr => ∃ k : Nat, k + gk = N ∧ i = .int .i64 k ∧ Below z w wr ∧ z ≤ wr.heap.size ∧ wr.ownsRow z 9 1 v k (sumV (xs.take k)))
  case atStart => exact ⟨0, by omega, rfl, B0, by have := HZ.out; omega, World.ownsRow_nil _ _ _ _⟩
  case round =>
    clear B0
    obtain ⟨k, hk, rfl, BW, hzw, hown⟩ := hrel
    have hr3 : ∀ b, u3.ownBlock = some b → z ≤ b := fun b hb => (hown.lt b hb).1
    by_cases hlt : k < N
    · have l1 : (k : Int) < N := by omega
      obtain ⟨x, hxk⟩ : ∃ f, xs[k]? = some f := ⟨xs[k]'(by have := HN.out; omega), List.getElem?_eq_getElem (by have := HN.out; omega)⟩
      have hxb := hb x (List.mem_of_getElem? hxk)
      obtain ⟨b, o, rfl, hbn, c0⟩ := slS_at h1 k x hxk
      replace c0 := (BW.cell (p := ⟨b, _, none⟩) (by show b < z; omega)).trans c0
      obtain ⟨r, hr⟩ : ∃ p, o + k = p := ⟨_, rfl⟩
      rw [hr] at c0
      have wk : IntKind.i64.wrap ((k : Int) + 1) = ((k + 1 : Nat) : Int) := by rw [IntKind.wrap_i64]; omega
      have KM := rsum_any x hxb
      rw [rsum_is] at KM
      obtain ⟨s, hs⟩ : ∃ s, sumOf x = s := ⟨_, rfl⟩
      rw [hs] at KM
      have hnext : sumV (xs.take (k + 1)) = sumV (xs.take k) ++ [.string s] := by
        unfold sumV
        rw [List.take_add_one, hxk, Option.toList, List.map_append, List.map_append, ← hs]
        rfl
      have HX : Hid _ := hnext
      have HO : Hid _ := hown
      clear hnext hs hxk hxb hown
      go_wp2_with fail
      refine (KM _).mono ?_
      rintro e w3 ⟨rfl, B3⟩
      clear KM c0
      have BW3 := belowStep BW hzw B3
      have A1 := be_new w3 (.cells #[.string s] 9)
      have hnew := World.alloc_heap_new w3 (.cells #[.string s] 9)
      have hown2 := owns_below2 (owns_below2 HO.out B3) A1
      have hs0 := B3.size
      have hs1 := A1.size
      have BW4 := belowStep BW3 (Nat.le_trans hzw hs0) A1
      have HV : Hid (_ ∧ _ ∧ _) := ⟨hown2, hnew, BW4⟩
      clear A1 hnew hown2 BW BW3 BW4 B3 HO
      go_wp2_with (at_builtin; refine wpList_append_where _ rfl _ _ 29 rfl z 9 i0 _ 1 16 Tryz.underlying29 hi0 hz0 hz1 hz2 rfl (by decide) _ k _ rfl HV.out.1 ⟨w3.heap.size, 0, none⟩ 1 1 [.string s] rfl rfl ?c1 ?c2 (by unfold maxLen; omega) (by omega) ?c3 (by decide) ?_)
      case c1 =>
        intro j u hj
        rw [Addr.add_lit, Lib.cell_of_heap HV.out.2.1, Nat.zero_add]
        simpa using hj
      case c2 =>
        intro u hu
        simp only [List.mem_cons, List.not_mem_nil, or_false] at hu
        rw [hu]
        rfl
      case c3 => omega
      intro v' w6 a2 a3 a4 a5
      have HW : Hid (_ ∧ _) := ⟨a2, a3⟩
      clear a2 a3 a4 a5
      go_wp2
      go_roundg (gk - 1)
      case measure => omega
      case rel =>
        obtain ⟨a2, a3⟩ := HW.out
        refine ⟨k + 1, by omega, by first | rfl | (congr 1; omega), HV.out.2.2.grown a3 (by omega) (fun q e => hr3 q e), Nat.le_trans (Nat.le_trans hzw (Nat.le_trans hs0 hs1)) a3.size, ?_⟩
        rw [HX.out]
        exact a2
    · have l1 : ¬ (k : Int) < N := by omega
      obtain rfl : k = N := by omega
      rw [List.take_of_length_le (by have := HN.out; omega)] at hown
      have hlen : (xs.map sumOf).length = k := by rw [List.length_map]; exact HN.out
      have hown3 : wr.ownsRow z 9 1 u3 (xs.map sumOf).length ((xs.map sumOf).map .string) := by rw [hlen]; exact hown
      obtain ⟨a', c', rfl, hs⟩ := slS_owns hown3
      rw [hlen]
      clear hown hown3 hlen hr3
      have HWZ : Hid (_ ∧ _) := ⟨BW, hzw⟩
      have BR := Below.refl wr.heap.size wr
      obtain ⟨z2, hz2'⟩ : ∃ z2, wr.heap.size = z2 := ⟨_, rfl⟩
      rw [hz2'] at hs BR hzw
      have FIN : ∀ w8, Below z2 wr w8 → Below z w w8 := fun w8 h => belowStep HWZ.out.1 HWZ.out.2 (by rw [hz2']; exact h)
      have HFIN : Hid _ := FIN
      have SIZ : ∀ w8, Below z2 wr w8 → z2 ≤ w8.heap.size := fun w8 h => by have := h.size; omega
      have HSIZ : Hid _ := SIZ
      have CX : ∀ (j : Nat) (x : ByteArray), xs[j]? = some x → ∃ b o, a = some ⟨b, o, none⟩ ∧ b < z2 ∧ wr.cell? ⟨b, o + j, none⟩ = some (.string x) := by
        intro j x hj
        obtain ⟨b, o, e, hbn, c0⟩ := slS_at h1 j x hj
        exact ⟨b, o, e, by omega, (HWZ.out.1.cell (p := ⟨b, _, none⟩) (by show b < z; omega)).trans c0⟩
      have HCX : Hid _ := CX
      have CS : ∀ (j : Nat) (x : ByteArray), xs[j]? = some x → ∃ b o, a' = some ⟨b, o, none⟩ ∧ b < z2 ∧ wr.cell? ⟨b, o + j, none⟩ = some (.string (sumOf x)) := by
        intro j x hj
        exact slS_at hs j (sumOf x) (by rw [List.getElem?_map, hj]; rfl)
      have HCS : Hid _ := CS
      have HNX : Hid (∀ j, j < k → ∃ x, xs[j]? = some x) := fun j hj => ⟨xs[j]'(by have := HN.out; omega), List.getElem?_eq_getElem (by have := HN.out; omega)⟩
      clear hs FIN SIZ CX CS BW hz2' h1 hzw hb
      go_wp2_with fail
      go_loopg [5, 6] k (fun gk i v6 wr' => ∃ m : Nat, m + gk = k ∧ i = .int .i64 m ∧ Hid (∀ (i j : Nat) (x y : ByteArray), i < m → j < i → xs[i]? = some x → xs[j]? = some y → ¬ (x ≠ y ∧ sumOf x = sumOf y)) ∧ Below z2 wr wr')
      case atStart => exact ⟨0, by omega, rfl, (fun i j x y h => by omega), BR⟩
      case round =>
        clear BR
        obtain ⟨m, hm, rfl, hA, BW⟩ := hrel
        by_cases hlm : m < k
        · have l2 : (m : Int) < k := by omega
          obtain ⟨og, rfl⟩ : ∃ g, gk = g + 1 := ⟨gk - 1, by omega⟩
          obtain ⟨x, hxm⟩ := HNX.out m hlm
          obtain ⟨b, o, rfl, hb1, c0⟩ := HCX.out m x hxm
          obtain ⟨b2, o2, rfl, hb2, c2⟩ := HCS.out m x hxm
          obtain ⟨r, hr⟩ : ∃ p, o + m = p := ⟨_, rfl⟩
          obtain ⟨r2, hr2⟩ : ∃ p, o2 + m = p := ⟨_, rfl⟩
          rw [hr] at c0
          rw [hr2] at c2
          have wk : IntKind.i64.wrap ((m : Int) + 1) = ((m + 1 : Nat) : Int) := by rw [IntKind.wrap_i64]; omega
          obtain ⟨sx, hsx⟩ : ∃ s, sumOf x = s := ⟨_, rfl⟩
          rw [hsx] at c2
          have HX : Hid (_ ∧ _) := ⟨hxm, hsx⟩
          have HC : Hid (_ ∧ _) := ⟨c0, c2⟩
          clear hxm hsx c0 c2
          go_wp2_with fail
          go_loopg [6] m (fun gm v6 wr' => ∃ j : Nat, j + gm = m ∧ v6 = .int .i64 j ∧ Hid (∀ (i : Nat) (y : ByteArray), i < j → xs[i]? = some y → ¬ (x ≠ y ∧ sumOf x = sumOf y)) ∧ Below z2 _ wr')
          case atStart => exact ⟨0, by omega, rfl, (fun i y h => by omega), BW⟩
          case round =>
            clear BW
            obtain ⟨j, hj, rfl, hA2, BW⟩ := hrel
            have hwz : z2 ≤ wr.heap.size := HSIZ.out _ BW
            by_cases hlj : j < m
            · have l3 : (j : Int) < m := by omega
              have l4 : (j : Int) < k := by omega
              obtain ⟨y, hyj⟩ := HNX.out j (by omega)
              obtain ⟨b', o', e', hb1', c1⟩ := HCX.out j y hyj
              injection e' with e'
              injection e' with e1 e2
              subst e1 e2
              obtain ⟨b2', o2', e', hb2', c3⟩ := HCS.out j y hyj
              injection e' with e'
              injection e' with e1 e2
              subst e1 e2
              obtain ⟨r', hr'⟩ : ∃ p, o + j = p := ⟨_, rfl⟩
              obtain ⟨r2', hr2'⟩ : ∃ p, o2 + j = p := ⟨_, rfl⟩
              rw [hr'] at c1
              rw [hr2'] at c3
              have wk' : IntKind.i64.wrap ((j : Int) + 1) = ((j + 1 : Nat) : Int) := by rw [IntKind.wrap_i64]; omega
              obtain ⟨sy, hsy⟩ : ∃ s, sumOf y = s := ⟨_, rfl⟩
              rw [hsy] at c3
              have HY : Hid (_ ∧ _) := ⟨hyj, hsy⟩
              clear hyj hsy
              have hbv : b < wr.heap.size := by omega
              have hbv' : b2 < wr.heap.size := by omega
              have d0 := (BW.cell (p := ⟨b, r, none⟩) (by show b < z2; omega)).trans HC.out.1
              have d1 := (BW.cell (p := ⟨b, r', none⟩) (by show b < z2; omega)).trans c1
              have d2 := (BW.cell (p := ⟨b2, r2, none⟩) (by show b2 < z2; omega)).trans HC.out.2
              have d3 := (BW.cell (p := ⟨b2, r2', none⟩) (by show b2 < z2; omega)).trans c3
              have q0 : ∀ d os, (grow (redrawn wr d) os).cell? ⟨b, r, none⟩ = some (.string x) := fun d os => ((below_regrown wr d os).cell (p := ⟨b, r, none⟩) hbv).trans d0
              have q1 : ∀ d os, (grow (redrawn wr d) os).cell? ⟨b, r', none⟩ = some (.string y) := fun d os => ((below_regrown wr d os).cell (p := ⟨b, r', none⟩) hbv).trans d1
              have q2 : ∀ d os, (grow (redrawn wr d) os).cell? ⟨b2, r2, none⟩ = some (.string sx) := fun d os => ((below_regrown wr d os).cell (p := ⟨b2, r2, none⟩) hbv').trans d2
              have q3 : ∀ d os, (grow (redrawn wr d) os).cell? ⟨b2, r2', none⟩ = some (.string sy) := fun d os => ((below_regrown wr d os).cell (p := ⟨b2, r2', none⟩) hbv').trans d3
              clear c1 c3 d0 d1 d2 d3
              by_cases e1 : x = y
              · have s1 : (x.toList == y.toList) = true := by rw [e1]; exact beq_self_eq_true _
                have HD : Hid (¬ (x ≠ y ∧ sumOf x = sumOf y)) := fun h => h.1 e1
                clear e1
                go_wp2_with fail
                refine wp_region_quiet_below (by kernel_rfl) (by kernel_rfl) ?_
                repeat (go_big_quiet_step (fail))
                refine wpQuiet_nil ?_
                intro w8 hw8
                have B8 : Below wr.heap.size wr w8 := by
                  obtain ⟨p, rfl⟩ := hw8
                  exact below_regrown _ _ _
                have BW8 := belowStep BW hwz B8
                clear hw8 q0 q1 q2 q3
                go_wp2
                go_roundg (gk - 1)
                case measure => omega
                case rel =>
                  refine ⟨j + 1, by omega, by first | rfl | (congr 1; omega), ?_, BW8⟩
                  intro i y' hi hy'
                  by_cases ei : i = j
                  · subst ei
                    rw [HY.out.1] at hy'
                    cases hy'
                    exact HD.out
                  · exact hA2.out i y' (by omega) hy'
              · have s1 : (x.toList == y.toList) = false := by rw [beq_eq_false_iff_ne]; exact fun e => e1 (toList_inj e)
                by_cases e2 : sx = sy
                · have s2 : (sx.toList == sy.toList) = true := by rw [e2]; exact beq_self_eq_true _
                  have hqt : q = true := by
                    rw [← HQ.out, clB, List.any_eq_true]
                    refine ⟨x, List.mem_of_getElem? HX.out.1, ?_⟩
                    rw [List.any_eq_true]
                    exact ⟨y, List.mem_of_getElem? HY.out.1, decide_eq_true ⟨e1, by rw [HX.out.2, HY.out.2]; exact e2⟩⟩
                  have HD : Hid (q = true) := hqt
                  clear e1 e2 hqt
                  go_wp2_with fail
                  refine wp_region_quiet_below (by kernel_rfl) (by kernel_rfl) ?_
                  repeat (go_big_quiet_step (fail))
                  refine wpQuiet_nil ?_
                  intro w8 hw8
                  have B8 : Below wr.heap.size wr w8 := by
                    obtain ⟨p, rfl⟩ := hw8
                    exact below_regrown _ _ _
                  have BW8 := belowStep BW hwz B8
                  clear hw8 q0 q1 q2 q3
                  go_wp2
                  go_ret
                  exact ⟨by rw [HD.out]; rfl, HFIN.out _ BW8⟩
                · have s2 : (sx.toList == sy.toList) = false := by rw [beq_eq_false_iff_ne]; exact fun e => e2 (toList_inj e)
                  have HD : Hid (¬ (x ≠ y ∧ sumOf x = sumOf y)) := fun h => e2 (by rw [← HX.out.2, ← HY.out.2]; exact h.2)
                  clear e1 e2
                  go_wp2_with fail
                  refine wp_region_quiet_below (by kernel_rfl) (by kernel_rfl) ?_
                  repeat (go_big_quiet_step (fail))
                  refine wpQuiet_nil ?_
                  intro w8 hw8
                  have B8 : Below wr.heap.size wr w8 := by
                    obtain ⟨p, rfl⟩ := hw8
                    exact below_regrown _ _ _
                  have BW8 := belowStep BW hwz B8
                  clear hw8 q0 q1 q2 q3
                  go_wp2
                  go_roundg (gk - 1)
                  case measure => omega
                  case rel =>
                    refine ⟨j + 1, by omega, by first | rfl | (congr 1; omega), ?_, BW8⟩
                    intro i y' hi hy'
                    by_cases ei : i = j
                    · subst ei
                      rw [HY.out.1] at hy'
                      cases hy'
                      exact HD.out
                    · exact hA2.out i y' (by omega) hy'
            · have l3 : ¬ (j : Int) < m := by omega
              go_wp2
              go_roundg og
              case measure => omega
              case rel =>
                refine ⟨m + 1, by omega, by first | rfl | (congr 1; omega), ?_, BW⟩
                intro i j' x' y' hi hj' hx' hy'
                by_cases ei : i = m
                · subst ei
                  rw [HX.out.1] at hx'
                  cases hx'
                  exact hA2.out j' y' (by omega) hy'
                · exact hA.out i j' x' y' (by omega) hj' hx' hy'
        · have l2 : ¬ (m : Int) < k := by omega
          have hqf : q = false := by
            rw [← HQ.out, clB, List.any_eq_false]
            intro x hx
            rw [Bool.not_eq_true, List.any_eq_false]
            intro y hy
            rw [Bool.not_eq_true]
            refine decide_eq_false fun h => ?_
            obtain ⟨i, hi⟩ := List.mem_iff_getElem?.1 hx
            obtain ⟨j, hj⟩ := List.mem_iff_getElem?.1 hy
            have := (List.getElem?_eq_some_iff.1 hi).1
            have := (List.getElem?_eq_some_iff.1 hj).1
            have := HN.out
            rcases Nat.lt_trichotomy i j with c | c | c
            · exact hA.out j i y x (by omega) c hj hi ⟨fun e => h.1 e.symm, h.2.symm⟩
            · subst c
              rw [hi] at hj
              exact h.1 (Option.some.inj hj)
            · exact hA.out i j x y (by omega) c hi hj h
          have HG : Hid (q = false) := hqf
          clear hqf
          go_wp2
          go_ret
          exact ⟨by rw [HG.out]; rfl, HFIN.out _ BW⟩
end Go.Proofs.YtbpcciifaekffaaGreatDoor
namespace Go.Proofs.YtbpcciifaekffaaGreatDoor
open Go.RowKit Go.Shelf Go.Sort

theorem dprI_up : ∀ (m : Nat) (x : It), dprI m x = false → dprI (m + 1) x = false
  | 0, _, h => by cases h
  | m + 1, .mk l t xs, h => by
    have h' : xs.any (dprI m) = false := h
    show xs.any (dprI (m + 1)) = false
    rw [List.any_eq_false] at h' ⊢
    intro y hy
    have h1 := h' y hy
    rw [Bool.not_eq_true] at h1 ⊢
    exact dprI_up m y h1
theorem dprI_le {m n : Nat} (h : m ≤ n) {x : It} (hx : dprI m x = false) : dprI n x = false := by
  induction h with
  | refl => exact hx
  | step _ ih => exact dprI_up _ x ih
theorem dprI_list {m : Nat} {t : ByteArray} {xs : List It} (h : ∀ y ∈ xs, dprI m y = false) : dprI (m + 1) (.mk true t xs) = false := by
  show xs.any (dprI m) = false
  rw [List.any_eq_false]
  intro y hy
  rw [Bool.not_eq_true]
  exact h y hy
theorem encI_pos (x : It) : 0 < (encI x).size := by rw [encI_eq]; exact hdK_pos _ _
theorem encI_list (t : ByteArray) (xs : List It) : (encI (.mk true t xs)).size = hsz (encIs xs).size + (encIs xs).size := by
  show (hdB 192 (encIs xs).size ++ encIs xs).size = _
  rw [ByteArray.size_append, hdB_hsz]
theorem hsz_pos (n : Nat) : 1 ≤ hsz n := by unfold hsz; split <;> omega
theorem encIs_len : ∀ xs : List It, xs.length ≤ (encIs xs).size
  | [] => Nat.zero_le _
  | x :: r => by
    have h1 := encI_pos x
    have h2 := encIs_len r
    show r.length + 1 ≤ (encI x ++ encIs r).size
    rw [ByteArray.size_append]
    omega
theorem encIs_room : ∀ (xs : List It) (x : It), x ∈ xs → (encI x).size + xs.length ≤ (encIs xs).size + 1
  | y :: r, x, h => by
    have h1 := encI_pos y
    have h2 := encIs_len r
    show (encI x).size + (r.length + 1) ≤ (encI y ++ encIs r).size + 1
    rw [ByteArray.size_append]
    rcases List.mem_cons.1 h with rfl | h
    · omega
    · have := encIs_room r x h
      omega
mutual
theorem enc_tb : ∀ x, tbI x ≤ 1000000 → (encI x).size ≤ tbI x
  | .mk l t xs, h => by
    have h' : t.size + 9 + tbIs xs ≤ 1000000 := h
    have hx := encs_tb xs (by omega)
    show _ ≤ t.size + 9 + tbIs xs
    cases l with
    | true =>
      rw [encI_list]
      have : hsz (encIs xs).size ≤ 9 := by
        unfold hsz
        have := blen_le (encIs xs).size 8 (by omega)
        split <;> omega
      omega
    | false =>
      show (if bare t then t else hdB 128 t.size ++ t).size ≤ _
      split
      · omega
      · rw [ByteArray.size_append, hdB_hsz]
        have : hsz t.size ≤ 9 := by
          unfold hsz
          have := blen_le t.size 8 (by omega)
          split <;> omega
        omega
theorem encs_tb : ∀ xs, tbIs xs ≤ 1000000 → (encIs xs).size ≤ tbIs xs
  | [], _ => Nat.zero_le _
  | x :: r, h => by
    have h' : tbI x + tbIs r ≤ 1000000 := h
    have h1 := enc_tb x (by omega)
    have h2 := encs_tb r (by omega)
    show (encI x ++ encIs r).size ≤ tbI x + tbIs r
    rw [ByteArray.size_append]
    omega
end
/-- What may stand in a node's list. -/
structure Kid (y : It) : Prop where
  rg : rgI y = true
  dp : dprI (2 + (encI y).size / 9) y = false
  d5 : dprI 5 y = false
theorem kid_text (t : ByteArray) : Kid (.mk false t []) := by
  have h : dprI 1 (.mk false t []) = false := rfl
  exact ⟨rfl, dprI_le (by omega) h, dprI_le (by omega) h⟩
theorem rgIs_of : ∀ {xs : List It}, (∀ y ∈ xs, rgI y = true) → rgIs xs = true
  | [], _ => rfl
  | x :: r, h => by
    show (rgI x && rgIs r) = true
    rw [h x (by simp), rgIs_of (fun y hy => h y (by simp [hy]))]
    rfl
/-- A node's list. -/
structure Fit (x : It) : Prop where
  ls : ∃ xs, x = .mk true ⟨#[]⟩ xs
  rg : rgI x = true
  dp : dprI (2 + (encI x).size / 9) x = false
  d6 : dprI 6 x = false
  sz : (encI x).size ≤ 65536
  lo : 3 ≤ (encI x).size
theorem Fit.e0 {x : It} (h : Fit x) : eE x = 0 := by
  unfold eE
  rw [dprI_le (by omega) h.d6, h.rg]
  have := h.sz
  rw [if_neg (by decide), if_pos rfl, if_neg (by omega)]
theorem Fit.eS {x : It} (h : Fit x) : eS x = encI x := by unfold _root_.Go.Proofs.YtbpcciifaekffaaGreatDoor.eS; rw [if_pos h.e0]
theorem Fit.inj {x y : It} (h : Fit x) (h' : Fit y) (e : _root_.Go.Proofs.YtbpcciifaekffaaGreatDoor.eS x = _root_.Go.Proofs.YtbpcciifaekffaaGreatDoor.eS y) : x = y := by
  rw [h.eS, h'.eS] at e
  have h1 := dec_enc h.e0
  rw [e, dec_enc h'.e0] at h1
  injection h1 with h1
  injection h1 with h1
  exact h1.symm
theorem kid_ref {x : It} (h : Fit x) : Kid (refI x) := by
  unfold refI
  rw [h.eS]
  split
  · exact ⟨h.rg, h.dp, dprI_le (by omega) h.dp⟩
  · exact kid_text _
theorem rg_list {xs : List It} (h : ∀ y ∈ xs, Kid y) : rgI (.mk true ⟨#[]⟩ xs) = true := by
  show ((if true then decide ((⟨#[]⟩ : ByteArray).size = 0) else decide (xs.length = 0)) && rgIs xs) = true
  rw [rgIs_of fun y hy => (h y hy).rg]
  rfl
theorem fit_list {xs : List It} (h : ∀ y ∈ xs, Kid y) (hl : 2 ≤ xs.length) (hz : tbI (.mk true ⟨#[]⟩ xs) ≤ 65536) (hd : dprI (2 + (encI (.mk true ⟨#[]⟩ xs)).size / 9) (.mk true ⟨#[]⟩ xs) = false) : Fit (.mk true ⟨#[]⟩ xs) where
  ls := ⟨xs, rfl⟩
  rg := rg_list h
  dp := hd
  d6 := dprI_list fun y hy => (h y hy).d5
  sz := Nat.le_trans (enc_tb _ (by omega)) hz
  lo := by
    rw [encI_list]
    have := hsz_pos (encIs xs).size
    have := encIs_len xs
    omega
/-- A list of 17. -/
theorem fork_deep {xs : List It} (h : ∀ y ∈ xs, Kid y) (hl : xs.length = 17) : 18 ≤ (encI (.mk true ⟨#[]⟩ xs)).size ∧ dprI (3 + ((encI (.mk true ⟨#[]⟩ xs)).size - 17) / 9) (.mk true ⟨#[]⟩ xs) = false := by
  rw [encI_list]
  have h1 := hsz_pos (encIs xs).size
  have h2 := encIs_len xs
  refine ⟨by omega, ?_⟩
  rw [show 3 + (hsz (encIs xs).size + (encIs xs).size - 17) / 9 = (2 + (hsz (encIs xs).size + (encIs xs).size - 17) / 9) + 1 by omega]
  refine dprI_list fun y hy => dprI_le ?_ (h y hy).dp
  have h3 := encIs_room xs y hy
  omega
/-- Strictly: what a list of 17 keeps besides. -/
structure Strong (x : It) : Prop where
  lo : 18 ≤ (encI x).size
  dp : dprI (3 + ((encI x).size - 17) / 9) x = false
theorem bridge_deep {t : ByteArray} {x : It} (hs : Strong x) : dprI (2 + (encI (.mk true ⟨#[]⟩ [.mk false t [], refI x])).size / 9) (.mk true ⟨#[]⟩ [.mk false t [], refI x]) = false := by
  have e0 := encI_list ⟨#[]⟩ [.mk false t [], refI x]
  have h1 := hsz_pos (encIs [.mk false t [], refI x]).size
  have h3 := encIs_room [.mk false t [], refI x] (refI x) (by simp)
  have h4 : ([.mk false t [], refI x] : List It).length = 2 := rfl
  obtain ⟨s, hs'⟩ : ∃ s, (encI (.mk true ⟨#[]⟩ [.mk false t [], refI x])).size = s := ⟨_, rfl⟩
  rw [hs'] at e0 ⊢
  rw [show 2 + s / 9 = (1 + s / 9) + 1 by omega]
  refine dprI_list fun y hy => ?_
  rcases List.mem_cons.1 hy with rfl | hy
  · exact dprI_le (m := 1) (by omega) rfl
  · obtain rfl := List.mem_singleton.1 hy
    by_cases hlt : (_root_.Go.Proofs.YtbpcciifaekffaaGreatDoor.eS x).size < 32
    · have er : refI x = x := by unfold refI; rw [if_pos hlt]
      clear hs'
      rw [er] at h1 h3 h4 e0 ⊢
      have := hs.lo
      exact dprI_le (by omega) hs.dp
    · have er : refI x = .mk false (sumOf (_root_.Go.Proofs.YtbpcciifaekffaaGreatDoor.eS x)) [] := by unfold refI; rw [if_neg hlt]
      rw [er]
      exact dprI_le (m := 1) (by omega) rfl
/-- Every node's list fits. -/
theorem nd_fit : ∀ (f d : Nat) (es : List Pr), 129 ≤ f + d → Ok d es → es.length ≤ 40 → Fit (ndF f d es).x ∧ (∀ e g : Pr, es[0]? = some e → es[es.length - 1]? = some g → 2 ≤ es.length → common (tl d e) (tl d g) = 0 → Strong (ndF f d es).x) := by
  intro f
  induction f with
  | zero =>
    intro d es hf h
    obtain ⟨e, r, rfl⟩ : ∃ e r, es = e :: r := by
      cases es with
      | nil => exact absurd h.pos (by simp)
      | cons e r => exact ⟨e, r, rfl⟩
    have := h.sz 0 e rfl
    omega
  | succ f IH =>
    intro d es hf h hn
    have htb := (nd_tb (f + 1) (f + 1) (Nat.le_refl _) d es h).1
    match es, h with
    | [], h => exact absurd h.pos (by simp)
    | [e], h =>
      refine ⟨?_, fun _ _ _ _ h2 _ => by simp at h2⟩
      have hk : ∀ y ∈ ([.mk false (fmS (tl d e) true) [], .mk false e.2 []] : List It), Kid y := fun y hy => by
        rcases List.mem_cons.1 hy with rfl | hy
        · exact kid_text _
        · obtain rfl := List.mem_singleton.1 hy
          exact kid_text _
      refine fit_list hk (by simp) (Nat.le_trans (Nat.le_trans (Nat.le_add_right _ 400) htb) (by simp)) ?_
      refine dprI_le (m := 2) (by omega) ?_
      rfl
    | e :: e2 :: r, h =>
      have he : (e :: e2 :: r)[0]? = some e := rfl
      have hg := last_at e e2 r
      have h2 : 2 ≤ (e :: e2 :: r).length := by simp
      obtain ⟨g, hgg⟩ : ∃ g, (e2 :: r).getLastD e2 = g := ⟨_, rfl⟩
      rw [hgg] at hg
      by_cases hc : common (tl d e) (tl d g) = 0
      · rw [nd_fork f d e e2 r (by rw [hgg]; exact hc)] at htb ⊢
        rw [fork_halves (ndF f (d + 1)) h h2] at htb ⊢
        have hk : ∀ y ∈ ((List.range 16).map (hvI (ndF f (d + 1)) d (e :: e2 :: r)) ++ [.mk false (vlE d (e :: e2 :: r)) []] : List It), Kid y := fun y hy => by
          rcases List.mem_append.1 hy with hy | hy
          · obtain ⟨k, _, rfl⟩ := List.mem_map.1 hy
            unfold hvI
            split
            · exact kid_text _
            · rename_i h0
              have hlen := List.length_filter_le (goes d (k : Int)) (e :: e2 :: r)
              exact kid_ref (IH (d + 1) _ (by omega) (h.going _ h0) (by omega)).1
          · obtain rfl := List.mem_singleton.1 hy
            exact kid_text _
        have hfd := fork_deep hk (by simp)
        exact ⟨fit_list hk (by simp) (by omega) (dprI_le (by omega) hfd.2), fun _ _ _ _ _ _ => ⟨hfd.1, hfd.2⟩⟩
      · refine ⟨?_, fun e' g' he' hg' _ hc' => ?_⟩
        · rw [nd_bridge f d e e2 r _ (by rw [hgg]) hc] at htb ⊢
          have hok := common_ok h he hg
          have hend := common_ends d e g (h.sz _ e he).1 (h.sz _ g hg).1
          obtain ⟨h5, h6⟩ := IH _ _ (by omega) hok hn
          have h7 := h6 e g he hg h2 hend
          refine fit_list (fun y hy => ?_) (by simp) (Nat.le_trans (Nat.le_trans (Nat.le_add_right _ 400) htb) (by omega)) (bridge_deep h7)
          rcases List.mem_cons.1 hy with rfl | hy
          · exact kid_text _
          · obtain rfl := List.mem_singleton.1 hy
            exact kid_ref h5
        · rw [he] at he'
          rw [hg] at hg'
          cases he'
          cases hg'
          exact absurd hc' hc
end Go.Proofs.YtbpcciifaekffaaGreatDoor
