/- What takeIn does at this translation: for all words, where the table is what the package lays. -/
import Derived.Test.YtmemfdpfbeijeabDoorS2
namespace Go.Proofs.YtmemfdpfbeijeabDoor
open Go.RowKit Go.Sort

/-- The words of the rounds, and the first eight. -/
def kc (j : Nat) : Int := [0x428a2f98, 0x71374491, 0xb5c0fbcf, 0xe9b5dba5, 0x3956c25b, 0x59f111f1, 0x923f82a4, 0xab1c5ed5, 0xd807aa98, 0x12835b01, 0x243185be, 0x550c7dc3, 0x72be5d74, 0x80deb1fe, 0x9bdc06a7, 0xc19bf174, 0xe49b69c1, 0xefbe4786, 0x0fc19dc6, 0x240ca1cc, 0x2de92c6f, 0x4a7484aa, 0x5cb0a9dc, 0x76f988da, 0x983e5152, 0xa831c66d, 0xb00327c8, 0xbf597fc7, 0xc6e00bf3, 0xd5a79147, 0x06ca6351, 0x14292967, 0x27b70a85, 0x2e1b2138, 0x4d2c6dfc, 0x53380d13, 0x650a7354, 0x766a0abb, 0x81c2c92e, 0x92722c85, 0xa2bfe8a1, 0xa81a664b, 0xc24b8b70, 0xc76c51a3, 0xd192e819, 0xd6990624, 0xf40e3585, 0x106aa070, 0x19a4c116, 0x1e376c08, 0x2748774c, 0x34b0bcb5, 0x391c0cb3, 0x4ed8aa4a, 0x5b9cca4f, 0x682e6ff3, 0x748f82ee, 0x78a5636f, 0x84c87814, 0x8cc70208, 0x90befffa, 0xa4506ceb, 0xbef9a3f7, 0xc67178f2].getD j 0
def hc (j : Nat) : Int := [0x6a09e667, 0xbb67ae85, 0x3c6ef372, 0xa54ff53a, 0x510e527f, 0x9b05688c, 0x1f83d9ab, 0x5be0cd19].getD j 0
/-- The tables lie where the package has them. -/
structure Laid (w : World) : Prop where
  k : Fw 1 64 (fun j => .int .u32 (kc j)) w
  h : Fw 0 8 (fun j => .int .u32 (hc j)) w
theorem Laid.below {w W : World} (k : Laid w) (h : Below w.heap.size w W) : Laid W := ⟨k.k.below h, k.h.below h⟩

theorem Fw.arr {W : World} {n N : Nat} {g : Nat → Value} (A : Array Value) (t : TypeId) (hn : W.heap.size = n) (h : ∀ j, j < N → A[j]? = some (g j)) : Fw n N g (W.alloc (.cells A t)) := by
  subst hn
  exact ⟨by simp, fun j hj => by simp [go_sem, h j hj], fun o => by simp [go_sem]⟩

/-- A number that fits. -/
abbrev md (x : Int) : Int := x % 4294967296
/-- Eight words behind a round. -/
structure Ei where
  (a b c d e f g h : Int)
def t1 (v : Ei) (k w : Int) : Int := md (md (md (md (v.h + g1 v.e) + xr (an v.e v.f) (an (bits .xor .u32 IntKind.u32.max v.e) v.g)) + k) + w)
def t2 (v : Ei) : Int := md (g0 v.a + xr (xr (an v.a v.b) (an v.a v.c)) (an v.b v.c))
def stepE (v : Ei) (k w : Int) : Ei := ⟨md (t1 v k w + t2 v), v.a, v.b, v.c, md (v.d + t1 v k w), v.e, v.f, v.g⟩
def runE (v : Ei) (g : Nat → Int) : Nat → Ei
  | 0 => v
  | n + 1 => stepE (runE v g n) (kc n) (g n)
def addE (v u : Ei) : Ei := ⟨md (v.a + u.a), md (v.b + u.b), md (v.c + u.c), md (v.d + u.d), md (v.e + u.e), md (v.f + u.f), md (v.g + u.g), md (v.h + u.h)⟩
def takeOf (v : Ei) (g : Nat → Int) : Ei := addE v (runE v g 64)
abbrev Ei.l (v : Ei) : Array Value := #[.int .u32 v.a, .int .u32 v.b, .int .u32 v.c, .int .u32 v.d, .int .u32 v.e, .int .u32 v.f, .int .u32 v.g, .int .u32 v.h]

/-- What takeIn has in memory. -/
structure TW (w : World) (z : Nat) (v : Ei) (g : Nat → Int) (W : World) : Prop where
  b : Below z w W
  s0 : W.cell? ⟨z, 0, none⟩ = some (.int .u32 v.a)
  s1 : W.cell? ⟨z, 1, none⟩ = some (.int .u32 v.b)
  s2 : W.cell? ⟨z, 2, none⟩ = some (.int .u32 v.c)
  s3 : W.cell? ⟨z, 3, none⟩ = some (.int .u32 v.d)
  s4 : W.cell? ⟨z, 4, none⟩ = some (.int .u32 v.e)
  s5 : W.cell? ⟨z, 5, none⟩ = some (.int .u32 v.f)
  s6 : W.cell? ⟨z, 6, none⟩ = some (.int .u32 v.g)
  s7 : W.cell? ⟨z, 7, none⟩ = some (.int .u32 v.h)
  g : Fw (z + 1) 64 (fun j => .int .u32 (g j)) W
  r : Fw (z + 1 + 1) 8 (fun _ => .int .u32 0) W
  k : Fw 1 64 (fun j => .int .u32 (kc j)) W
  z : z < W.heap.size
theorem TW.below {w : World} {z : Nat} {v : Ei} {g : Nat → Int} {W W' : World} (h : TW w z v g W) (hb : Below W.heap.size W W') : TW w z v g W' :=
  ⟨belowStep h.b (Nat.le_of_lt h.z) hb, (hb.cell (p := ⟨z, 0, none⟩) h.z).trans h.s0, (hb.cell (p := ⟨z, 1, none⟩) h.z).trans h.s1, (hb.cell (p := ⟨z, 2, none⟩) h.z).trans h.s2, (hb.cell (p := ⟨z, 3, none⟩) h.z).trans h.s3, (hb.cell (p := ⟨z, 4, none⟩) h.z).trans h.s4, (hb.cell (p := ⟨z, 5, none⟩) h.z).trans h.s5, (hb.cell (p := ⟨z, 6, none⟩) h.z).trans h.s6, (hb.cell (p := ⟨z, 7, none⟩) h.z).trans h.s7,
   h.g.below hb, h.r.below hb, h.k.below hb, Nat.lt_of_lt_of_le h.z hb.size⟩

theorem size_sw : (Tryd.prog.info? 50).map (·.size) = some 8 := by kernel_rfl

set_option maxRecDepth 20000 in
set_option maxHeartbeats 4000000 in
theorem takeIn_any (v : Ei) (A : Array Value) (g : Nat → Int) (hA : ∀ j, j < 64 → A[j]? = some (.int .u32 (g j))) (w : World) (hl : Laid w) :
    Calls Tryd.prog 21 #[.agg v.l, .agg A] w fun e w' =>
      e = .returned (.agg (takeOf v g).l) ∧ Below w.heap.size w w' := by
  obtain ⟨h0, h1, h2, h3, h4, h5, h6, h7⟩ := v
  have HA : Hid (∀ j, j < 64 → A[j]? = some (.int .u32 (g j))) := hA
  clear hA
  go_enter Tryd.func21, Tryd.ntmps21
  go_wp2
  refine wpOf (fun W => TW w w.heap.size ⟨h0, h1, h2, h3, h4, h5, h6, h7⟩ g W) ⟨(((Below.refl _ w).alloc (Nat.le_refl _) _).alloc (by simp) _).alloc (by simp; omega) _, by simp [go_sem], by simp [go_sem], by simp [go_sem], by simp [go_sem], by simp [go_sem], by simp [go_sem], by simp [go_sem], by simp [go_sem], Fw.alloc (Fw.arr _ _ (by simp) HA.out) _, Fw.lit _ _ (by simp) rfl, ((hl.k.alloc _).alloc _).alloc _, by simp; omega⟩ ?_
  rintro V TV
  clear hl HA
  obtain ⟨z, hz⟩ : ∃ c, w.heap.size = c := ⟨_, rfl⟩
  have HZ : Hid (w.heap.size = z) := hz
  rw [hz] at TV ⊢
  clear hz
  have k0 := cell_regrown (TV.s0)
  have k1 := cell_regrown (TV.s1)
  have k2 := cell_regrown (TV.s2)
  have k3 := cell_regrown (TV.s3)
  refine wp_region_quiet_below (by kernel_rfl) (by kernel_rfl) ?_
  iterate 12 (quiet_step (fail))
  refine wpQuiet_nil ?_
  intro Va hw8
  have TVa : TW w z ⟨h0, h1, h2, h3, h4, h5, h6, h7⟩ g Va := TV.below (by obtain ⟨p, rfl⟩ := hw8; exact below_regrown _ _ _)
  clear hw8 k0 k1 k2 k3 TV
  go_wp2
  have k0 := cell_regrown (TVa.s4)
  have k1 := cell_regrown (TVa.s5)
  have k2 := cell_regrown (TVa.s6)
  have k3 := cell_regrown (TVa.s7)
  refine wp_region_quiet_below (by kernel_rfl) (by kernel_rfl) ?_
  iterate 12 (quiet_step (fail))
  refine wpQuiet_nil ?_
  intro Vb hw8
  have TVb : TW w z ⟨h0, h1, h2, h3, h4, h5, h6, h7⟩ g Vb := TVa.below (by obtain ⟨p, rfl⟩ := hw8; exact below_regrown _ _ _)
  clear hw8 k0 k1 k2 k3 TVa
  go_wp2
  go_loopg [5, 6, 7, 8, 9, 10, 11, 12, 32] 64 (fun gk a b c d e f y h i wr => ∃ k : Nat, ∃ va vb vc vd ve vf vg vh : Int, k + gk = 64 ∧ a = .int .u32 va ∧ b = .int .u32 vb ∧ c = .int .u32 vc ∧ d = .int .u32 vd ∧ e = .int .u32 ve ∧ f = .int .u32 vf ∧ y = .int .u32 vg ∧ h = .int .u32 vh ∧ i = .int .i64 k ∧ TW w z ⟨h0, h1, h2, h3, h4, h5, h6, h7⟩ g wr ∧ Hid (runE ⟨h0, h1, h2, h3, h4, h5, h6, h7⟩ g k = ⟨va, vb, vc, vd, ve, vf, vg, vh⟩))
  case atStart => exact ⟨0, _, _, _, _, _, _, _, _, rfl, rfl, rfl, rfl, rfl, rfl, rfl, rfl, rfl, rfl, TVb, (rfl : _ = _)⟩
  case round =>
    clear TVb
    obtain ⟨k, va, vb, vc, vd, ve, vf, vg, vh, hk, rfl, rfl, rfl, rfl, rfl, rfl, rfl, rfl, rfl, TW1, hH⟩ := hrel
    by_cases hlt : k < 64
    · have l0 : (k : Int) < 64 := by omega
      have m0 := TW1.k.c k hlt
      have m1 := TW1.g.c k hlt
      obtain ⟨y0, hy0⟩ : ∃ q, kc k = q := ⟨_, rfl⟩
      obtain ⟨y1, hy1⟩ : ∃ q, g k = q := ⟨_, rfl⟩
      rw [hy0] at m0
      rw [hy1] at m1
      have K0 : Hid (∀ w : World, _) := fun w : World => g1_any ve w
      have K1 : Hid (∀ w : World, _) := fun w : World => g0_any va w
      obtain ⟨x0, hx0⟩ : ∃ q, g1 ve = q := ⟨_, rfl⟩
      obtain ⟨x1, hx1⟩ : ∃ q, g0 va = q := ⟨_, rfl⟩
      rw [hx0] at K0
      rw [hx1] at K1
      have HV : Hid (_ ∧ _ ∧ _ ∧ _) := ⟨hy0, hy1, hx0, hx1⟩
      clear hy0 hy1 hx0 hx1
      go_wp2
      have c0 := inClass (w := wr) K0.out
      have k0 := cell_regrown (m0)
      have k1 := cell_regrown (m1)
      refine wp_region_quiet_below (by kernel_rfl) (by kernel_rfl) ?_
      iterate 2 (quiet_step (fail))
      quiet_step (exact c0 _ _)
      iterate 19 (quiet_step (fail))
      refine wpQuiet_nil ?_
      intro Vc hw8
      have TVc : TW w z ⟨h0, h1, h2, h3, h4, h5, h6, h7⟩ g Vc := TW1.below (by obtain ⟨p, rfl⟩ := hw8; exact below_regrown _ _ _)
      clear hw8 k0 k1 TW1
      clear m0 m1 c0 K0
      go_wp2_with fail
      refine (K1.out _).mono ?_
      rintro e w4 ⟨rfl, B4⟩
      have T4 := TVc.below B4
      clear B4 TVc K1
      go_wp2
      go_roundg (gk - 1)
      case measure => omega
      case rel =>
        refine ⟨k + 1, _, _, _, _, _, _, _, _, by omega, rfl, rfl, rfl, rfl, rfl, rfl, rfl, rfl, rfl, T4, ?_⟩
        obtain ⟨e1, e2, e3, e4⟩ := HV.out
        show _ = _
        rw [runE, hH.out]
        simp only [stepE, t1, t2, md, xr, an, e1, e2, e3, e4]
    · have hk2 : k = 64 := by omega
      subst hk2
      clear hlt
      obtain ⟨BW, s0, s1, s2, s3, s4, s5, s6, s7, _, hr, _, hzz⟩ := TW1
      dsimp only at s0 s1 s2 s3 s4 s5 s6 s7
      have r0 := hr.c 0 (by decide)
      have r1 := hr.c 1 (by decide)
      have r2 := hr.c 2 (by decide)
      have r3 := hr.c 3 (by decide)
      have r4 := hr.c 4 (by decide)
      have r5 := hr.c 5 (by decide)
      have r6 := hr.c 6 (by decide)
      have r7 := hr.c 7 (by decide)
      have rf := hr.f
      have rz := hr.z
      have hr2 := (hr.store (fun j => .int .u32 ([(h0 + va) % 4294967296, (h1 + vb) % 4294967296, (h2 + vc) % 4294967296, (h3 + vd) % 4294967296, (h4 + ve) % 4294967296, (h5 + vf) % 4294967296, (h6 + vg) % 4294967296, (h7 + vh) % 4294967296].getD j 0))).range
      have HR : Hid _ := hr2
      clear hr2
      go_wp2
      refine bodyPost_ret (v := .agg #[.int .u32 ((h0 + va) % 4294967296), .int .u32 ((h1 + vb) % 4294967296), .int .u32 ((h2 + vc) % 4294967296), .int .u32 ((h3 + vd) % 4294967296), .int .u32 ((h4 + ve) % 4294967296), .int .u32 ((h5 + vf) % 4294967296), .int .u32 ((h6 + vg) % 4294967296), .int .u32 ((h7 + vh) % 4294967296)]) (results_mid Tryd.results21 _ _ (z + 1 + 1) [.int .u32 ((h0 + va) % 4294967296), .int .u32 ((h1 + vb) % 4294967296), .int .u32 ((h2 + vc) % 4294967296), .int .u32 ((h3 + vd) % 4294967296), .int .u32 ((h4 + ve) % 4294967296), .int .u32 ((h5 + vf) % 4294967296), .int .u32 ((h6 + vg) % 4294967296), .int .u32 ((h7 + vh) % 4294967296)] _ rfl (by exact HR.out) Tryd.underlying50 rfl size_sw) rfl ⟨?_, ?_⟩
      · rw [takeOf, hH.out]
        rfl
      · rw [HZ.out]
        exact below_setCells' (b := z + 1 + 1) (by omega) [_, _, _, _, _, _, _, _] 0 _ BW
end Go.Proofs.YtmemfdpfbeijeabDoor
