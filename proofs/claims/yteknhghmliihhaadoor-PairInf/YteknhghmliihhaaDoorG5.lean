/- What the reference's Root, Pow2, Inv2 do. No condition. -/
import Derived.Test.YteknhghmliihhaaDoorG4
namespace Go.Proofs.YteknhghmliihhaaDoor
open Go.RowKit Go.Sort

/-- A pair that lies in a block. -/
structure Pb (n : Nat) (x : P2) (W : World) : Prop where
  z : n < W.heap.size
  a : W.cell? ⟨n, 0, none⟩ = some (.int .u64 (x.A : Int))
  b : W.cell? ⟨n, 1, none⟩ = some (.int .u64 (x.B : Int))
  f : ∀ o, W.frozen? ⟨n, o, none⟩ = false
abbrev put2 (n : Nat) (x : P2) (W : World) : World := (W.setCell ⟨n, 0, none⟩ (.int .u64 (x.A : Int))).setCell ⟨n, 1, none⟩ (.int .u64 (x.B : Int))
theorem Pb.new (W : World) (x : P2) (t : Nat) : Pb W.heap.size x (W.alloc (.cells #[.int .u64 (x.A : Int), .int .u64 (x.B : Int)] t)) := ⟨by simp, by simp [go_sem], by simp [go_sem], by simp [go_sem]⟩
theorem Pb.new' (W : World) (x : P2) (t n : Nat) (h : W.heap.size = n) : Pb n x (W.alloc (.cells #[.int .u64 (x.A : Int), .int .u64 (x.B : Int)] t)) := by subst h; exact Pb.new W x t
theorem Pb.below {n : Nat} {x : P2} {W W' : World} (h : Pb n x W) (hb : Below W.heap.size W W') : Pb n x W' :=
  ⟨Nat.lt_of_lt_of_le h.z hb.size, (hb.cell (p := ⟨n, 0, none⟩) h.z).trans h.a, (hb.cell (p := ⟨n, 1, none⟩) h.z).trans h.b, fun o => by rw [← h.f o]; simp only [World.frozen?, hb.block _ h.z]⟩
theorem Pb.over {n : Nat} {x : P2} {W : World} (h : Pb n x W) (y : P2) : Pb n y (put2 n y W) := by
  obtain ⟨z, a, b, f⟩ := h
  exact ⟨by simp [go_sem, *], by simp [go_sem, *], by simp [go_sem, *], by simp [go_sem, *]⟩
theorem Pb.other {n g : Nat} {x : P2} {W : World} (h : Pb n x W) (y : P2) (hg : g ≠ n) : Pb n x (put2 g y W) := by
  obtain ⟨z, a, b, f⟩ := h
  have hg' : n ≠ g := fun e => hg e.symm
  exact ⟨by simp [go_sem, *], by simp [go_sem, *], by simp [go_sem, *], by simp [go_sem, *]⟩
theorem below_put2 {k g : Nat} {w W : World} (h : Below k w W) (hg : k ≤ g) (y : P2) : Below k w (put2 g y W) := (h.setCell (p := ⟨g, 0, none⟩) hg _).setCell (p := ⟨g, 1, none⟩) hg _

set_option maxRecDepth 20000 in
set_option maxHeartbeats 4000000 in
theorem rpow2_any (a : P2) (n : Nat) (ha : UP a) (hn : U64 n) (w : World) :
    Calls Tryd.prog 49 #[vP a, .int .u64 n] w fun e w' => e = .returned (vP (q2 a n)) ∧ Below w.heap.size w w' := by
  go_enter Tryd.func49, Tryd.ntmps49
  go_wp2_with fail
  refine wpOf (fun V => Below w.heap.size w V ∧ Pb w.heap.size a V ∧ Pb (w.heap.size + 1) z2 V ∧ Pb (w.heap.size + 1 + 1) o2 V) ⟨by go_grown, ?_, ?_, ?_⟩ ?_
  · exact ((Pb.new w a 27).below ((Below.refl _ _).alloc (Nat.le_refl _) _)).below ((Below.refl _ _).alloc (Nat.le_refl _) _)
  · exact (Pb.new' _ z2 27 _ (by simp)).below ((Below.refl _ _).alloc (Nat.le_refl _) _)
  · exact Pb.new' _ o2 27 _ (by simp)
  rintro V ⟨BV, hA, hZ, hO⟩
  go_loopg [6] 64 (fun gk i wr => i = .int .i64 ((gk : Int) - 1) ∧ gk ≤ 64 ∧ Below w.heap.size w wr ∧ Pb w.heap.size a wr ∧ Pb (w.heap.size + 1) z2 wr ∧ Pb (w.heap.size + 1 + 1) (q2 a (n / 2 ^ gk)) wr)
  case atStart =>
    refine ⟨rfl, by omega, BV, hA, hZ, ?_⟩
    have : n / 2 ^ 64 = 0 := Nat.div_eq_of_lt hn
    rw [this, q2_0]
    exact hO
  case round =>
    clear BV hA hZ hO
    obtain ⟨rfl, hg, BW, hA, hZ, hO⟩ := hrel
    cases gk with
    | zero =>
      have e0 : q2 a (n / 2 ^ 0) = q2 a n := by rw [Nat.pow_zero, Nat.div_one]
      rw [e0] at hO
      obtain ⟨x, hx⟩ : ∃ x, q2 a n = x := ⟨_, rfl⟩
      rw [hx] at hO
      obtain ⟨oz, o0, o1, of⟩ := id hO
      obtain ⟨zz, z0, z1, zf⟩ := id hZ
      go_wp2
      refine bodyPost_ret (v := vP x) (by simp [results, Tryd.results49, go_sem, *]) rfl ⟨by rw [hx], ?_⟩
      exact below_put2 BW (by omega) x
    | succ q =>
      obtain ⟨x, hx⟩ : ∃ x, q2 a (n / 2 ^ (q + 1)) = x := ⟨_, rfl⟩
      obtain ⟨y, hy⟩ : ∃ y, n / 2 ^ q = y := ⟨_, rfl⟩
      have hxU : UP x := by rw [← hx]; exact q2_u _ _
      have hyU : U64 y := by rw [← hy]; exact Nat.lt_of_le_of_lt (Nat.div_le_self _ _) hn
      have st := q2_step a n q
      rw [hx, hy] at st
      obtain ⟨s, hs⟩ : ∃ s, m2 x x = s := ⟨_, rfl⟩
      have hsU : UP s := by rw [← hs]; exact m2_u _ _
      rw [hs] at st
      have hd : (n : Int) / 2 ^ q = y := by rw [← hy]; simp [Int.natCast_ediv, Int.natCast_pow]
      have ha1 := and_one y hyU
      have C1 := rmul2_any x x hxU hxU
      rw [hs] at C1
      rw [hx] at hO
      obtain ⟨r, hr⟩ : ∃ r, m2 s a = r := ⟨_, rfl⟩
      have C2 := rmul2_any s a hsU ha
      rw [hr] at C2 st
      have HH : Hid (_ ∧ _) := ⟨hy, st⟩
      clear hx hy st hs hr
      obtain ⟨oz, o0, o1, of⟩ := id hO
      have HA : Hid (_ ∧ _ ∧ _ ∧ _) := ⟨hA, hZ, hO, BW⟩
      clear hA hZ hO BW
      by_cases hb : y % 2 = 1
      · rw [hb] at ha1
        go_wp2_with fail
        refine (C1 _).mono ?_
        rintro e w1 ⟨rfl, B1⟩
        obtain ⟨hA, hZ, hO, BW⟩ := HA.out
        have O1 := hO.below B1
        have A1 := hA.below B1
        obtain ⟨oz1, p0, p1, pf⟩ := id O1
        obtain ⟨az1, a0, a1, af⟩ := id (A1.other s (g := w.heap.size + 1 + 1) (by omega))
        obtain ⟨sz1, s0, s1, sf⟩ := id (O1.over s)
        have HK : Hid (_ ∧ _ ∧ _ ∧ _) := ⟨A1.other s (g := w.heap.size + 1 + 1) (by omega), (hZ.below B1).other s (g := w.heap.size + 1 + 1) (by omega), O1.over s, below_put2 (belowStep BW BW.size B1) (g := w.heap.size + 1 + 1) (by omega) s⟩
        clear hA hZ hO BW O1 A1 B1 o0 o1 of
        go_wp2_with fail
        refine (C2 _).mono ?_
        rintro e w2 ⟨rfl, B2⟩
        obtain ⟨hA, hZ, hO, BW⟩ := HK.out
        have O1 := hO.below B2
        obtain ⟨oz2, b0, b1, bf⟩ := id O1
        go_wp2_with fail
        go_roundg q
        case measure => omega
        case rel =>
          refine ⟨by congr 1, by omega, below_put2 (belowStep BW BW.size B2) (by omega) r, (hA.below B2).other r (by omega), (hZ.below B2).other r (by omega), ?_⟩
          rw [HH.out.1, HH.out.2, if_pos hb]
          exact O1.over r
      · rw [show y % 2 = 0 by omega] at ha1
        go_wp2_with fail
        refine (C1 _).mono ?_
        rintro e w1 ⟨rfl, B1⟩
        obtain ⟨hA, hZ, hO, BW⟩ := HA.out
        have O1 := hO.below B1
        obtain ⟨oz1, p0, p1, pf⟩ := id O1
        go_wp2_with fail
        go_roundg q
        case measure => omega
        case rel =>
          refine ⟨by congr 1, by omega, below_put2 (belowStep BW BW.size B1) (by omega) s, (hA.below B1).other s (by omega), (hZ.below B1).other s (by omega), ?_⟩
          rw [HH.out.1, HH.out.2, if_neg hb]
          exact O1.over s

end Go.Proofs.YteknhghmliihhaaDoor
