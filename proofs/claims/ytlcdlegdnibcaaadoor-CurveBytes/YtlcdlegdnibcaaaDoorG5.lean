/- What the reference's Root, Pow2, Inv2 do. No condition. -/
import Derived.Test.YtlcdlegdnibcaaaDoorG4
namespace Go.Proofs.YtlcdlegdnibcaaaDoor
open Go.RowKit Go.Sort

/-- A pair that lies in a block. -/
structure Pb (n : Nat) (x : P2) (W : World) : Prop where
  z : n < W.heap.size
  a : W.cell? ⟨n, 0, none⟩ = some (.int .u64 (x.A : Int))
  b : W.cell? ⟨n, 1, none⟩ = some (.int .u64 (x.B : Int))
  f : ∀ o, W.frozen? ⟨n, o, none⟩ = false
abbrev put2 (n : Nat) (x : P2) (W : World) : World := (W.setCell ⟨n, 0, none⟩ (.int .u64 (x.A : Int))).setCell ⟨n, 1, none⟩ (.int .u64 (x.B : Int))
theorem Pb.new (W : World) (x : P2) (t : Nat) : Pb W.heap.size x (W.alloc (.cells #[.int .u64 (x.A : Int), .int .u64 (x.B : Int)] t)) := ⟨by simp, by simp [go_sem], by simp [go_sem], by simp [go_sem]⟩
theorem Pb.new' (W : World) (x : P2) (t n : Nat) (h : W.heap.size = n) : Pb n x (W.alloc (.cells #[.int .u64 (x.A : Int), .int .u64 (x.B : Int)] t)) := by subst h; exact Pb.new W x t
theorem Pb.below {n : Nat} {x : P2} {W W' : World} (h : Pb n x W) (hb : Below W.heap.size W W') : Pb n x W' :=
  ⟨Nat.lt_of_lt_of_le h.z hb.size, (hb.cell (p := ⟨n, 0, none⟩) h.z).trans h.a, (hb.cell (p := ⟨n, 1, none⟩) h.z).trans h.b, fun o => by rw [← h.f o]; simp only [World.frozen?, hb.block _ h.z]⟩
theorem Pb.over {n : Nat} {x : P2} {W : World} (h : Pb n x W) (y : P2) : Pb n y (put2 n y W) := by
  obtain ⟨z, a, b, f⟩ := h
  exact ⟨by simp [go_sem, *], by simp [go_sem, *], by simp [go_sem, *], by simp [go_sem, *]⟩
theorem Pb.other {n g : Nat} {x : P2} {W : World} (h : Pb n x W) (y : P2) (hg : g ≠ n) : Pb n x (put2 g y W) := by
  obtain ⟨z, a, b, f⟩ := h
  have hg' : n ≠ g := fun e => hg e.symm
  exact ⟨by simp [go_sem, *], by simp [go_sem, *], by simp [go_sem, *], by simp [go_sem, *]⟩
theorem below_put2 {k g : Nat} {w W : World} (h : Below k w W) (hg : k ≤ g) (y : P2) : Below k w (put2 g y W) := (h.setCell (p := ⟨g, 0, none⟩) hg _).setCell (p := ⟨g, 1, none⟩) hg _

set_option maxHeartbeats 2000000 in
theorem rroot_any (a : Nat) (ha : U64 a) (w : World) :
    Calls Tryd.prog 38 #[.int .u64 a] w fun e w' => e = .returned (.tuple #[.int .u64 (roN a : Nat), .bool (roB a)]) ∧ Below w.heap.size w w' := by
  have hlt := rt_lt a
  have hR := rpow_any a 536870717 ha (by unfold U64; omega)
  rw [show pwN a 536870717 = rtN a from rfl] at hR
  have er : roN a = if muN (rtN a) (rtN a) = a % PM then (if rtN a % 2 = 1 then PM - rtN a else rtN a) else 0 := rfl
  have eb : roB a = decide (muN (rtN a) (rtN a) = a % PM) := rfl
  obtain ⟨x, hx⟩ : ∃ x, rtN a = x := ⟨_, rfl⟩
  rw [hx] at hlt er eb hR
  obtain ⟨s, hs⟩ : ∃ s, muN x x = s := ⟨_, rfl⟩
  have hm : (a : Int) % 2147482867 = ((a % PM : Nat) : Int) := by unfold PM; omega
  obtain ⟨y, hy⟩ : ∃ y, a % PM = y := ⟨_, rfl⟩
  rw [hy] at hm er eb
  have C1 := rmul_any x x (pm_u _ hlt) (pm_u _ hlt)
  rw [hs] at C1 er eb
  rw [er, eb]
  clear hs hy hx er eb
  by_cases h1 : s = y
  · subst h1
    rw [if_pos rfl, decide_eq_true rfl]
    by_cases h2 : x % 2 = 1
    · have hm2 : (x : Int) % 2 = 1 := by omega
      rw [if_pos h2]
      obtain ⟨d, hd⟩ : ∃ d, PM - x = d := ⟨_, rfl⟩
      have hw : IntKind.u64.wrap (2147482867 - (x : Int)) = (d : Int) := by unfold PM at *; rw [IntKind.wrap_u64]; omega
      rw [hd]
      clear hd
      go_enter Tryd.func38, Tryd.ntmps38
      go_wp2_with fail
      refine (hR _).mono ?_
      rintro e w1 ⟨rfl, B1⟩
      go_wp2_with fail
      refine (C1 _).mono ?_
      rintro e w2 ⟨rfl, B2⟩
      go_wp2_with fail
      refine bodyPost_ret (v := .tuple #[.int .u64 (d : Int), .bool true]) (by simp [results, Tryd.results38, go_sem, *]) rfl ⟨rfl, belowStep B1 B1.size B2⟩
    · have hm2 : (x : Int) % 2 = 0 := by omega
      rw [if_neg h2]
      go_enter Tryd.func38, Tryd.ntmps38
      go_wp2_with fail
      refine (hR _).mono ?_
      rintro e w1 ⟨rfl, B1⟩
      go_wp2_with fail
      refine (C1 _).mono ?_
      rintro e w2 ⟨rfl, B2⟩
      go_wp2_with fail
      refine bodyPost_ret (v := .tuple #[.int .u64 (x : Int), .bool true]) (by simp [results, Tryd.results38, go_sem, *]) rfl ⟨rfl, belowStep B1 B1.size B2⟩
  · rw [if_neg h1, decide_eq_false h1]
    have h1' : ¬ (s : Int) = y := by omega
    go_enter Tryd.func38, Tryd.ntmps38
    go_wp2_with fail
    refine (hR _).mono ?_
    rintro e w1 ⟨rfl, B1⟩
    go_wp2_with fail
    refine (C1 _).mono ?_
    rintro e w2 ⟨rfl, B2⟩
    go_wp2_with fail
    refine bodyPost_ret (v := .tuple #[.int .u64 0, .bool false]) (by simp [results, Tryd.results38, go_sem, *]) rfl ⟨rfl, belowStep B1 B1.size B2⟩

end Go.Proofs.YtlcdlegdnibcaaaDoor
