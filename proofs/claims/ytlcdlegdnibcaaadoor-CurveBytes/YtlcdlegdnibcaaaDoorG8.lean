/- What the program's Inv, Root do. No condition. -/
import Derived.Test.YtlcdlegdnibcaaaDoorG7
namespace Go.Proofs.YtlcdlegdnibcaaaDoor
open Go.RowKit Go.Shelf Go.Sort

set_option maxHeartbeats 2000000 in
theorem inv_any (a : Nat) (ha : U64 a) (w : World) :
    Calls Tryd.prog 52 #[.int .u64 a] w fun e w' => e = .returned (.int .u64 (ivN a : Nat)) ∧ Below w.heap.size w w' := by
  go_enter Tryd.func52, Tryd.ntmps52
  go_wp2_with fail
  refine (pow_any a 2147482865 ha (by unfold U64; omega) _).mono ?_
  rintro e w1 ⟨rfl, B1⟩
  go_wp2_with fail
  go_ret
  exact ⟨rfl, B1⟩

set_option maxHeartbeats 2000000 in
theorem root_any (a : Nat) (ha : U64 a) (w : World) :
    Calls Tryd.prog 47 #[.int .u64 a] w fun e w' => e = .returned (.tuple #[.int .u64 (roN a : Nat), .bool (roB a)]) ∧ Below w.heap.size w w' := by
  have hlt := rt_lt a
  have hR := pow_any a 536870717 ha (by unfold U64; omega)
  rw [show pwN a 536870717 = rtN a from rfl] at hR
  have er : roN a = if muN (rtN a) (rtN a) = a % PM then (if rtN a % 2 = 1 then PM - rtN a else rtN a) else 0 := rfl
  have eb : roB a = decide (muN (rtN a) (rtN a) = a % PM) := rfl
  obtain ⟨x, hx⟩ : ∃ x, rtN a = x := ⟨_, rfl⟩
  rw [hx] at hlt er eb hR
  obtain ⟨s, hs⟩ : ∃ s, muN x x = s := ⟨_, rfl⟩
  have hm : (a : Int) % 2147482867 = ((a % PM : Nat) : Int) := by unfold PM; omega
  obtain ⟨y, hy⟩ : ∃ y, a % PM = y := ⟨_, rfl⟩
  rw [hy] at hm er eb
  have C1 := mul_any x x (pm_u _ hlt) (pm_u _ hlt)
  rw [hs] at C1 er eb
  rw [er, eb]
  clear hs hy hx er eb
  by_cases h1 : s = y
  · subst h1
    rw [if_pos rfl, decide_eq_true rfl]
    by_cases h2 : x % 2 = 1
    · have hm2 : (x : Int) % 2 = 1 := by omega
      rw [if_pos h2]
      obtain ⟨d, hd⟩ : ∃ d, PM - x = d := ⟨_, rfl⟩
      have C2 := sub_any 0 x (by unfold U64; omega) (pm_u _ hlt)
      rw [sb_neg x hlt h2, hd] at C2
      rw [hd]
      clear hd
      go_enter Tryd.func47, Tryd.ntmps47
      go_wp2_with fail
      refine (hR _).mono ?_
      rintro e w1 ⟨rfl, B1⟩
      go_wp2_with fail
      refine (C1 _).mono ?_
      rintro e w2 ⟨rfl, B2⟩
      go_wp2_with fail
      refine (C2 _).mono ?_
      rintro e w3 ⟨rfl, B3⟩
      go_wp2_with fail
      refine bodyPost_ret (v := .tuple #[.int .u64 (d : Int), .bool true]) (by simp [results, Tryd.results47, go_sem, *]) rfl ⟨rfl, belowStep (belowStep B1 B1.size B2) (Nat.le_trans B1.size B2.size) B3⟩
    · have hm2 : (x : Int) % 2 = 0 := by omega
      rw [if_neg h2]
      go_enter Tryd.func47, Tryd.ntmps47
      go_wp2_with fail
      refine (hR _).mono ?_
      rintro e w1 ⟨rfl, B1⟩
      go_wp2_with fail
      refine (C1 _).mono ?_
      rintro e w2 ⟨rfl, B2⟩
      go_wp2_with fail
      refine bodyPost_ret (v := .tuple #[.int .u64 (x : Int), .bool true]) (by simp [results, Tryd.results47, go_sem, *]) rfl ⟨rfl, belowStep B1 B1.size B2⟩
  · rw [if_neg h1, decide_eq_false h1]
    have h1' : ¬ (s : Int) = y := by omega
    go_enter Tryd.func47, Tryd.ntmps47
    go_wp2_with fail
    refine (hR _).mono ?_
    rintro e w1 ⟨rfl, B1⟩
    go_wp2_with fail
    refine (C1 _).mono ?_
    rintro e w2 ⟨rfl, B2⟩
    go_wp2_with fail
    refine bodyPost_ret (v := .tuple #[.int .u64 0, .bool false]) (by simp [results, Tryd.results47, go_sem, *]) rfl ⟨rfl, belowStep B1 B1.size B2⟩
end Go.Proofs.YtlcdlegdnibcaaaDoor
