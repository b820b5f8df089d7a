/- Lemmas: More on arrays that lie in memory. No condition. Words of 32 bits turned: what RotateLeft32, turnRight and the four sums of turned words do at this translation. The four sums of turned words, at this translation. What takeIn does at this translation: for all words, where the table is what the package lays. What wordsOf does at this translation: for all blocks of 64 bytes. What spread does at this translation: for all blocks. -/
import Derived.Test.YtoddangedbefgabGreatDoorM15
import Derived.Test.YtoddangedbefgabGreatDoorM5
set_option maxRecDepth 20000
set_option maxHeartbeats 4000000
namespace Go.Proofs.YtoddangedbefgabGreatDoor
open Go.RowKit Go.Sort
theorem Fw.lit {W : World} {n N : Nat} {g : Nat → Value} (cs : Array Value) (t : TypeId) (hn : W.heap.size = n) (h : cs = (fl N g).toArray) : Fw n N g (W.alloc (.cells cs t)) := by
 subst hn h
 exact Fw.new W N g t
def ror (x : Int) (k : Nat) : Int := bits .or .u32 (x * 2 ^ (32 - k) % 4294967296) (x / 2 ^ k)
abbrev xr (x y : Int) : Int := bits .xor .u32 x y
abbrev an (x y : Int) : Int := bits .and .u32 x y
theorem and_31 (k : Nat) (h1 : 1 ≤ k) (hk : k < 32) : bits .and .u64 (18446744073709551616 - (k : Int)) 31 = ((32 - k : Nat) : Int) := by
 have e : ∀ j : Fin 32, 1 ≤ j.val → bits .and .u64 (18446744073709551616 - ((j.val : Nat) : Int)) 31 = ((32 - j.val : Nat) : Int) := by decide +kernel
 exact e ⟨k, hk⟩ h1
theorem rotl_any (x : Int) (k : Nat) (h1 : 1 ≤ k) (hk : k < 32) (w : World) :
  Calls Tryz.prog 168 #[.int .u32 x, .int .i64 (-(k : Int))] w fun e w' =>
   e = .returned (.int .u32 (ror x k)) ∧ Below w.heap.size w w' := by
 obtain ⟨q, hq⟩ : ∃ q : Int, 18446744073709551616 - (k : Int) = q := ⟨_, rfl⟩
 obtain ⟨m, hm⟩ : ∃ m : Nat, 32 - k = m := ⟨_, rfl⟩
 have w1 : IntKind.u64.wrap (-(k : Int)) = q := by rw [IntKind.wrap_u64]; omega
 have ha : bits .and .u64 q 31 = m := by rw [← hq, ← hm]; exact and_31 k h1 hk
 have w2 : IntKind.u64.wrap (32 - (m : Int)) = k := by rw [IntKind.wrap_u64]; omega
 have w3 : IntKind.u64.wrap (m : Int) = m := by rw [IntKind.wrap_u64]; omega
 have w4 : IntKind.u64.wrap (k : Int) = k := by rw [IntKind.wrap_u64]; omega
 have l1 : (k : Int) ≤ 64 := by omega
 have l2 : (m : Int) ≤ 64 := by omega
 have z1 : 0 ≤ (k : Int) := by omega
 have z2 : 0 ≤ (m : Int) := by omega
 have hmm : min m 32 = m := by omega
 have HM : Hid (32 - k = m) := hm
 clear hm hq
 go_enter Tryz.func168, Tryz.ntmps168
 go_wp2
 go_ret
 exact ⟨by rw [ror, HM.out]; rfl, Below.refl _ _⟩
theorem jcu (x : Int) (k : Nat) (h1 : 1 ≤ k) (hk : k < 32) (w : World) :
  Calls Tryz.prog 153 #[.int .u32 x, .int .i64 k] w fun e w' =>
   e = .returned (.int .u32 (ror x k)) ∧ Below w.heap.size w w' := by
 have w1 : IntKind.i64.wrap (-(k : Int)) = -(k : Int) := by rw [IntKind.wrap_i64]; omega
 have HC : Hid (∀ w : World, _) := fun w : World => rotl_any x k h1 hk w
 clear h1 hk
 go_enter Tryz.func153, Tryz.ntmps153
 go_wp2_with fail
 refine (HC.out _).mono ?_
 rintro e w1 ⟨rfl, B1⟩
 clear HC
 go_wp2
 go_ret
 exact ⟨rfl, B1⟩
def s0 (x : Int) : Int := xr (xr (ror x 7) (ror x 18)) (x / 2 ^ 3)
def s1 (x : Int) : Int := xr (xr (ror x 17) (ror x 19)) (x / 2 ^ 10)
def g0 (x : Int) : Int := xr (xr (ror x 2) (ror x 13)) (ror x 22)
def g1 (x : Int) : Int := xr (xr (ror x 6) (ror x 11)) (ror x 25)
theorem s0_any (x : Int) (w : World) :
  Calls Tryz.prog 135 #[.int .u32 x] w fun e w' => e = .returned (.int .u32 (s0 x)) ∧ Below w.heap.size w w' := by
 have K7 : Hid (∀ w : World, _) := fun w : World => jcu x 7 (by decide) (by decide) w
 have K18 : Hid (∀ w : World, _) := fun w : World => jcu x 18 (by decide) (by decide) w
 obtain ⟨r7, h7⟩ : ∃ r, ror x 7 = r := ⟨_, rfl⟩
 rw [h7] at K7
 obtain ⟨r18, h18⟩ : ∃ r, ror x 18 = r := ⟨_, rfl⟩
 rw [h18] at K18
 have HR : Hid (_) := (show ror x 7 = r7 ∧ ror x 18 = r18 from ⟨h7, h18⟩)
 clear h7 h18
 go_enter Tryz.func135, Tryz.ntmps135
 go_wp2_with fail
 refine (K7.out _).mono ?_
 rintro e w1 ⟨rfl, B1⟩
 go_wp2_with fail
 refine (K18.out _).mono ?_
 rintro e w2 ⟨rfl, B2⟩
 have B2 := jaa B1 B1.size B2
 go_wp2
 go_ret
 refine ⟨?_, B2⟩
 rw [s0, HR.out.1, HR.out.2]
 rfl
theorem s1_any (x : Int) (w : World) :
  Calls Tryz.prog 136 #[.int .u32 x] w fun e w' => e = .returned (.int .u32 (s1 x)) ∧ Below w.heap.size w w' := by
 have K17 : Hid (∀ w : World, _) := fun w : World => jcu x 17 (by decide) (by decide) w
 have K19 : Hid (∀ w : World, _) := fun w : World => jcu x 19 (by decide) (by decide) w
 obtain ⟨r17, h17⟩ : ∃ r, ror x 17 = r := ⟨_, rfl⟩
 rw [h17] at K17
 obtain ⟨r19, h19⟩ : ∃ r, ror x 19 = r := ⟨_, rfl⟩
 rw [h19] at K19
 have HR : Hid (_) := (show ror x 17 = r17 ∧ ror x 19 = r19 from ⟨h17, h19⟩)
 clear h17 h19
 go_enter Tryz.func136, Tryz.ntmps136
 go_wp2_with fail
 refine (K17.out _).mono ?_
 rintro e w1 ⟨rfl, B1⟩
 go_wp2_with fail
 refine (K19.out _).mono ?_
 rintro e w2 ⟨rfl, B2⟩
 have B2 := jaa B1 B1.size B2
 go_wp2
 go_ret
 refine ⟨?_, B2⟩
 rw [s1, HR.out.1, HR.out.2]
 rfl
theorem g0_any (x : Int) (w : World) :
  Calls Tryz.prog 134 #[.int .u32 x] w fun e w' => e = .returned (.int .u32 (g0 x)) ∧ Below w.heap.size w w' := by
 have K2 : Hid (∀ w : World, _) := fun w : World => jcu x 2 (by decide) (by decide) w
 have K13 : Hid (∀ w : World, _) := fun w : World => jcu x 13 (by decide) (by decide) w
 have K22 : Hid (∀ w : World, _) := fun w : World => jcu x 22 (by decide) (by decide) w
 obtain ⟨r2, h2⟩ : ∃ r, ror x 2 = r := ⟨_, rfl⟩
 rw [h2] at K2
 obtain ⟨r13, h13⟩ : ∃ r, ror x 13 = r := ⟨_, rfl⟩
 rw [h13] at K13
 obtain ⟨r22, h22⟩ : ∃ r, ror x 22 = r := ⟨_, rfl⟩
 rw [h22] at K22
 have HR : Hid (_) := (show ror x 2 = r2 ∧ ror x 13 = r13 ∧ ror x 22 = r22 from ⟨h2, h13, h22⟩)
 clear h2 h13 h22
 go_enter Tryz.func134, Tryz.ntmps134
 go_wp2_with fail
 refine (K2.out _).mono ?_
 rintro e w1 ⟨rfl, B1⟩
 go_wp2_with fail
 refine (K13.out _).mono ?_
 rintro e w2 ⟨rfl, B2⟩
 have B2 := jaa B1 B1.size B2
 go_wp2_with fail
 refine (K22.out _).mono ?_
 rintro e w3 ⟨rfl, B3⟩
 have B3 := jaa B2 B2.size B3
 go_wp2
 go_ret
 refine ⟨?_, B3⟩
 rw [g0, HR.out.1, HR.out.2.1, HR.out.2.2]
 rfl
theorem g1_any (x : Int) (w : World) :
  Calls Tryz.prog 133 #[.int .u32 x] w fun e w' => e = .returned (.int .u32 (g1 x)) ∧ Below w.heap.size w w' := by
 have K6 : Hid (∀ w : World, _) := fun w : World => jcu x 6 (by decide) (by decide) w
 have K11 : Hid (∀ w : World, _) := fun w : World => jcu x 11 (by decide) (by decide) w
 have K25 : Hid (∀ w : World, _) := fun w : World => jcu x 25 (by decide) (by decide) w
 obtain ⟨r6, h6⟩ : ∃ r, ror x 6 = r := ⟨_, rfl⟩
 rw [h6] at K6
 obtain ⟨r11, h11⟩ : ∃ r, ror x 11 = r := ⟨_, rfl⟩
 rw [h11] at K11
 obtain ⟨r25, h25⟩ : ∃ r, ror x 25 = r := ⟨_, rfl⟩
 rw [h25] at K25
 have HR : Hid (_) := (show ror x 6 = r6 ∧ ror x 11 = r11 ∧ ror x 25 = r25 from ⟨h6, h11, h25⟩)
 clear h6 h11 h25
 go_enter Tryz.func133, Tryz.ntmps133
 go_wp2_with fail
 refine (K6.out _).mono ?_
 rintro e w1 ⟨rfl, B1⟩
 go_wp2_with fail
 refine (K11.out _).mono ?_
 rintro e w2 ⟨rfl, B2⟩
 have B2 := jaa B1 B1.size B2
 go_wp2_with fail
 refine (K25.out _).mono ?_
 rintro e w3 ⟨rfl, B3⟩
 have B3 := jaa B2 B2.size B3
 go_wp2
 go_ret
 refine ⟨?_, B3⟩
 rw [g1, HR.out.1, HR.out.2.1, HR.out.2.2]
 rfl
def kc (j : Nat) : Int := [0x428a2f98, 0x71374491, 0xb5c0fbcf, 0xe9b5dba5, 0x3956c25b, 0x59f111f1, 0x923f82a4, 0xab1c5ed5, 0xd807aa98, 0x12835b01, 0x243185be, 0x550c7dc3, 0x72be5d74, 0x80deb1fe, 0x9bdc06a7, 0xc19bf174, 0xe49b69c1, 0xefbe4786, 0x0fc19dc6, 0x240ca1cc, 0x2de92c6f, 0x4a7484aa, 0x5cb0a9dc, 0x76f988da, 0x983e5152, 0xa831c66d, 0xb00327c8, 0xbf597fc7, 0xc6e00bf3, 0xd5a79147, 0x06ca6351, 0x14292967, 0x27b70a85, 0x2e1b2138, 0x4d2c6dfc, 0x53380d13, 0x650a7354, 0x766a0abb, 0x81c2c92e, 0x92722c85, 0xa2bfe8a1, 0xa81a664b, 0xc24b8b70, 0xc76c51a3, 0xd192e819, 0xd6990624, 0xf40e3585, 0x106aa070, 0x19a4c116, 0x1e376c08, 0x2748774c, 0x34b0bcb5, 0x391c0cb3, 0x4ed8aa4a, 0x5b9cca4f, 0x682e6ff3, 0x748f82ee, 0x78a5636f, 0x84c87814, 0x8cc70208, 0x90befffa, 0xa4506ceb, 0xbef9a3f7, 0xc67178f2].getD j 0
def hc (j : Nat) : Int := [0x6a09e667, 0xbb67ae85, 0x3c6ef372, 0xa54ff53a, 0x510e527f, 0x9b05688c, 0x1f83d9ab, 0x5be0cd19].getD j 0
structure Laid (w : World) : Prop where
 k : Fw 2 64 (fun j => .int .u32 (kc j)) w
 h : Fw 0 8 (fun j => .int .u32 (hc j)) w
theorem Laid.below {w W : World} (k : Laid w) (h : Below w.heap.size w W) : Laid W := ⟨k.k.below h, k.h.below h⟩
theorem Fw.arr {W : World} {n N : Nat} {g : Nat → Value} (A : Array Value) (t : TypeId) (hn : W.heap.size = n) (h : ∀ j, j < N → A[j]? = some (g j)) : Fw n N g (W.alloc (.cells A t)) := by
 subst hn
 exact ⟨by simp, fun j hj => by simp [go_sem, h j hj], fun o => by simp [go_sem]⟩
abbrev md (x : Int) : Int := x % 4294967296
structure Ei where
 (a b c d e f g h : Int)
def t1 (v : Ei) (k w : Int) : Int := md (md (md (md (v.h + g1 v.e) + xr (an v.e v.f) (an (bits .xor .u32 IntKind.u32.max v.e) v.g)) + k) + w)
def t2 (v : Ei) : Int := md (g0 v.a + xr (xr (an v.a v.b) (an v.a v.c)) (an v.b v.c))
def stepE (v : Ei) (k w : Int) : Ei := ⟨md (t1 v k w + t2 v), v.a, v.b, v.c, md (v.d + t1 v k w), v.e, v.f, v.g⟩
def runE (v : Ei) (g : Nat → Int) : Nat → Ei
 | 0 => v
 | n + 1 => stepE (runE v g n) (kc n) (g n)
def addE (v u : Ei) : Ei := ⟨md (v.a + u.a), md (v.b + u.b), md (v.c + u.c), md (v.d + u.d), md (v.e + u.e), md (v.f + u.f), md (v.g + u.g), md (v.h + u.h)⟩
def jcz (v : Ei) (g : Nat → Int) : Ei := addE v (runE v g 64)
abbrev Ei.l (v : Ei) : Array Value := #[.int .u32 v.a, .int .u32 v.b, .int .u32 v.c, .int .u32 v.d, .int .u32 v.e, .int .u32 v.f, .int .u32 v.g, .int .u32 v.h]
structure TW (w : World) (z : Nat) (v : Ei) (g : Nat → Int) (W : World) : Prop where
 b : Below z w W
 s0 : W.cell? ⟨z, 0, none⟩ = some (.int .u32 v.a)
 s1 : W.cell? ⟨z, 1, none⟩ = some (.int .u32 v.b)
 s2 : W.cell? ⟨z, 2, none⟩ = some (.int .u32 v.c)
 s3 : W.cell? ⟨z, 3, none⟩ = some (.int .u32 v.d)
 s4 : W.cell? ⟨z, 4, none⟩ = some (.int .u32 v.e)
 s5 : W.cell? ⟨z, 5, none⟩ = some (.int .u32 v.f)
 s6 : W.cell? ⟨z, 6, none⟩ = some (.int .u32 v.g)
 s7 : W.cell? ⟨z, 7, none⟩ = some (.int .u32 v.h)
 g : Fw (z + 1) 64 (fun j => .int .u32 (g j)) W
 r : Fw (z + 1 + 1) 8 (fun _ => .int .u32 0) W
 k : Fw 2 64 (fun j => .int .u32 (kc j)) W
 z : z < W.heap.size
theorem TW.below {w : World} {z : Nat} {v : Ei} {g : Nat → Int} {W W' : World} (h : TW w z v g W) (hb : Below W.heap.size W W') : TW w z v g W' :=
 ⟨jaa h.b (Nat.le_of_lt h.z) hb, (hb.cell (p := ⟨z, 0, none⟩) h.z).trans h.s0, (hb.cell (p := ⟨z, 1, none⟩) h.z).trans h.s1, (hb.cell (p := ⟨z, 2, none⟩) h.z).trans h.s2, (hb.cell (p := ⟨z, 3, none⟩) h.z).trans h.s3, (hb.cell (p := ⟨z, 4, none⟩) h.z).trans h.s4, (hb.cell (p := ⟨z, 5, none⟩) h.z).trans h.s5, (hb.cell (p := ⟨z, 6, none⟩) h.z).trans h.s6, (hb.cell (p := ⟨z, 7, none⟩) h.z).trans h.s7,
 h.g.below hb, h.r.below hb, h.k.below hb, Nat.lt_of_lt_of_le h.z hb.size⟩
theorem size_sw : (Tryz.prog.info? 149).map (·.size) = some 8 := by kernel_rfl
theorem takeIn_any (v : Ei) (A : Array Value) (g : Nat → Int) (hA : ∀ j, j < 64 → A[j]? = some (.int .u32 (g j))) (w : World) (hl : Laid w) :
  Calls Tryz.prog 113 #[.agg v.l, .agg A] w fun e w' =>
   e = .returned (.agg (jcz v g).l) ∧ Below w.heap.size w w' := by
 obtain ⟨h0, h1, h2, h3, h4, h5, h6, h7⟩ := v
 have HA : Hid (∀ j, j < 64 → A[j]? = some (.int .u32 (g j))) := hA
 clear hA
 go_enter Tryz.func113, Tryz.ntmps113
 go_wp2
 refine wpOf (fun W => TW w w.heap.size ⟨h0, h1, h2, h3, h4, h5, h6, h7⟩ g W) ⟨(((Below.refl _ w).alloc (Nat.le_refl _) _).alloc (by simp) _).alloc (by simp; omega) _, by simp [go_sem], by simp [go_sem], by simp [go_sem], by simp [go_sem], by simp [go_sem], by simp [go_sem], by simp [go_sem], by simp [go_sem], Fw.alloc (Fw.arr _ _ (by simp) HA.out) _, Fw.lit _ _ (by simp) rfl, ((hl.k.alloc _).alloc _).alloc _, by simp; omega⟩ ?_
 rintro V TV
 clear hl HA
 obtain ⟨z, hz⟩ : ∃ c, w.heap.size = c := ⟨_, rfl⟩
 have HZ : Hid (w.heap.size = z) := hz
 rw [hz] at TV ⊢
 clear hz
 have k0 := cell_regrown (TV.s0)
 have k1 := cell_regrown (TV.s1)
 have k2 := cell_regrown (TV.s2)
 have k3 := cell_regrown (TV.s3)
 refine wp_region_quiet_below (by kernel_rfl) (by kernel_rfl) ?_
 iterate 12 (quiet_step (fail))
 refine wpQuiet_nil ?_
 intro Va hw8
 have TVa : TW w z ⟨h0, h1, h2, h3, h4, h5, h6, h7⟩ g Va := TV.below (by obtain ⟨p, rfl⟩ := hw8; exact below_regrown _ _ _)
 clear hw8 k0 k1 k2 k3 TV
 go_wp2
 have k0 := cell_regrown (TVa.s4)
 have k1 := cell_regrown (TVa.s5)
 have k2 := cell_regrown (TVa.s6)
 have k3 := cell_regrown (TVa.s7)
 refine wp_region_quiet_below (by kernel_rfl) (by kernel_rfl) ?_
 iterate 12 (quiet_step (fail))
 refine wpQuiet_nil ?_
 intro Vb hw8
 have TVb : TW w z ⟨h0, h1, h2, h3, h4, h5, h6, h7⟩ g Vb := TVa.below (by obtain ⟨p, rfl⟩ := hw8; exact below_regrown _ _ _)
 clear hw8 k0 k1 k2 k3 TVa
 go_wp2
 go_loopg [5, 6, 7, 8, 9, 10, 11, 12, 32] 64 (fun gk a b c d e f y h i wr => ∃ k : Nat, ∃ va vb vc vd ve vf vg vh : Int, k + gk = 64 ∧ a = .int .u32 va ∧ b = .int .u32 vb ∧ c = .int .u32 vc ∧ d = .int .u32 vd ∧ e = .int .u32 ve ∧ f = .int .u32 vf ∧ y = .int .u32 vg ∧ h = .int .u32 vh ∧ i = .int .i64 k ∧ TW w z ⟨h0, h1, h2, h3, h4, h5, h6, h7⟩ g wr ∧ Hid (runE ⟨h0, h1, h2, h3, h4, h5, h6, h7⟩ g k = ⟨va, vb, vc, vd, ve, vf, vg, vh⟩))
 case atStart => exact ⟨0, _, _, _, _, _, _, _, _, rfl, rfl, rfl, rfl, rfl, rfl, rfl, rfl, rfl, rfl, TVb, (rfl : _ = _)⟩
 case round =>
  clear TVb
  obtain ⟨k, va, vb, vc, vd, ve, vf, vg, vh, hk, rfl, rfl, rfl, rfl, rfl, rfl, rfl, rfl, rfl, TW1, hH⟩ := hrel
  by_cases hlt : k < 64
  ·have l0 : (k : Int) < 64 := by omega
   have m0 := TW1.k.c k hlt
   have m1 := TW1.g.c k hlt
   obtain ⟨y0, hy0⟩ : ∃ q, kc k = q := ⟨_, rfl⟩
   obtain ⟨y1, hy1⟩ : ∃ q, g k = q := ⟨_, rfl⟩
   rw [hy0] at m0
   rw [hy1] at m1
   have K0 : Hid (∀ w : World, _) := fun w : World => g1_any ve w
   have K1 : Hid (∀ w : World, _) := fun w : World => g0_any va w
   obtain ⟨x0, hx0⟩ : ∃ q, g1 ve = q := ⟨_, rfl⟩
   obtain ⟨x1, hx1⟩ : ∃ q, g0 va = q := ⟨_, rfl⟩
   rw [hx0] at K0
   rw [hx1] at K1
   have HV : Hid (_ ∧ _ ∧ _ ∧ _) := ⟨hy0, hy1, hx0, hx1⟩
   clear hy0 hy1 hx0 hx1
   go_wp2
   have c0 := jae (w := wr) K0.out
   have k0 := cell_regrown (m0)
   have k1 := cell_regrown (m1)
   refine wp_region_quiet_below (by kernel_rfl) (by kernel_rfl) ?_
   iterate 2 (quiet_step (fail))
   quiet_step (exact c0 _ _)
   iterate 19 (quiet_step (fail))
   refine wpQuiet_nil ?_
   intro Vc hw8
   have TVc : TW w z ⟨h0, h1, h2, h3, h4, h5, h6, h7⟩ g Vc := TW1.below (by obtain ⟨p, rfl⟩ := hw8; exact below_regrown _ _ _)
   clear hw8 k0 k1 TW1
   clear m0 m1 c0 K0
   go_wp2_with fail
   refine (K1.out _).mono ?_
   rintro e w4 ⟨rfl, B4⟩
   have T4 := TVc.below B4
   clear B4 TVc K1
   go_wp2
   go_roundg (gk - 1)
   case measure => omega
   case rel =>
    refine ⟨k + 1, _, _, _, _, _, _, _, _, by omega, rfl, rfl, rfl, rfl, rfl, rfl, rfl, rfl, rfl, T4, ?_⟩
    obtain ⟨e1, e2, e3, e4⟩ := HV.out
    show _ = _
    rw [runE, hH.out]
    simp only [stepE, t1, t2, md, xr, an, e1, e2, e3, e4]
  ·have hk2 : k = 64 := by omega
   subst hk2
   clear hlt
   obtain ⟨BW, s0, s1, s2, s3, s4, s5, s6, s7, _, hr, _, hzz⟩ := TW1
   dsimp only at s0 s1 s2 s3 s4 s5 s6 s7
   have r0 := hr.c 0 (by decide)
   have r1 := hr.c 1 (by decide)
   have r2 := hr.c 2 (by decide)
   have r3 := hr.c 3 (by decide)
   have r4 := hr.c 4 (by decide)
   have r5 := hr.c 5 (by decide)
   have r6 := hr.c 6 (by decide)
   have r7 := hr.c 7 (by decide)
   have rf := hr.f
   have rz := hr.z
   have hr2 := (hr.store (fun j => .int .u32 ([(h0 + va) % 4294967296, (h1 + vb) % 4294967296, (h2 + vc) % 4294967296, (h3 + vd) % 4294967296, (h4 + ve) % 4294967296, (h5 + vf) % 4294967296, (h6 + vg) % 4294967296, (h7 + vh) % 4294967296].getD j 0))).range
   have HR : Hid _ := hr2
   clear hr2
   go_wp2
   refine bodyPost_ret (v := .agg #[.int .u32 ((h0 + va) % 4294967296), .int .u32 ((h1 + vb) % 4294967296), .int .u32 ((h2 + vc) % 4294967296), .int .u32 ((h3 + vd) % 4294967296), .int .u32 ((h4 + ve) % 4294967296), .int .u32 ((h5 + vf) % 4294967296), .int .u32 ((h6 + vg) % 4294967296), .int .u32 ((h7 + vh) % 4294967296)]) (jcs Tryz.results113 _ _ (z + 1 + 1) [.int .u32 ((h0 + va) % 4294967296), .int .u32 ((h1 + vb) % 4294967296), .int .u32 ((h2 + vc) % 4294967296), .int .u32 ((h3 + vd) % 4294967296), .int .u32 ((h4 + ve) % 4294967296), .int .u32 ((h5 + vf) % 4294967296), .int .u32 ((h6 + vg) % 4294967296), .int .u32 ((h7 + vh) % 4294967296)] _ rfl (by exact HR.out) Tryz.underlying149 rfl size_sw) rfl ⟨?_, ?_⟩
   ·rw [jcz, hH.out]
    rfl
   ·rw [HZ.out]
    exact jap (b := z + 1 + 1) (by omega) [_, _, _, _, _, _, _, _] 0 _ BW
def s_bt (s : ByteArray) (i : Nat) : Int := ((s.data.getD i 0).toNat : Int)
theorem s_bt_get (s : ByteArray) (d : Nat) (h : d < s.size) : ((s[d]'h).toNat : Int) = s_bt s d := by
 have : s.data.getD d 0 = s[d]'h := by
  simp [Array.getD, h]
  rfl
 unfold s_bt
 rw [this]
theorem jfl (s : ByteArray) (d : Nat) : 0 ≤ s_bt s d ∧ s_bt s d < 256 := by
 unfold s_bt
 have := (s.data.getD d 0).toNat_lt
 omega
def num (t : ByteArray) (p : Nat) : Nat → Int
 | 0 => 0
 | r + 1 => bits .or .u32 (num t p r * 256 % 4294967296) (s_bt t (p + r))
def wordAt (t : ByteArray) (j : Nat) : Int := num t (4 * j) 4
theorem size_bw : (Tryz.prog.info? 155).map (·.size) = some 16 := by kernel_rfl
theorem wordsOf_any (t : ByteArray) (ht : t.size = 64) (w : World) :
  Calls Tryz.prog 148 #[.string t] w fun e w' =>
   e = .returned (.agg (fl 16 fun j => .int .u32 (wordAt t j)).toArray) ∧ Below w.heap.size w w' := by
 go_enter Tryz.func148, Tryz.ntmps148
 go_wp2
 refine wpOf (fun W => Below w.heap.size w W ∧ Fw w.heap.size 16 (fun _ => .int .u32 0) W ∧ Fw (w.heap.size + 1) 16 (fun _ => .int .u32 0) W) ⟨((Below.refl _ w).alloc (Nat.le_refl _) _).alloc (by simp) _, Fw.alloc (Fw.lit _ _ rfl rfl) _, Fw.lit _ _ (by simp) rfl⟩ ?_
 rintro V ⟨BV, ZV, CV⟩
 obtain ⟨z, hz⟩ : ∃ c, w.heap.size = c := ⟨_, rfl⟩
 have HZ : Hid (w.heap.size = z) := hz
 rw [hz] at BV ZV CV ⊢
 clear hz
 obtain ⟨c, hc⟩ : ∃ c, z + 1 = c := ⟨_, rfl⟩
 rw [hc] at CV ⊢
 go_loopg [7] 64 (fun gk i wr => ∃ k : Nat, ∃ h : Nat → Int, k + gk = 64 ∧ i = .int .i64 k ∧ Below z w wr ∧ Fw z 16 (fun _ => .int .u32 0) wr ∧ Fw c 16 (fun j => .int .u32 (h j)) wr ∧ Hid (∀ j, j < 16 → h j = num t (4 * j) (min 4 (k - 4 * j))))
 case atStart => exact ⟨0, fun _ => 0, rfl, rfl, BV, ZV, CV, fun j _ => by rw [Nat.zero_sub]; rfl⟩
 case round =>
  clear BV ZV CV
  obtain ⟨k, h, hk, rfl, BW, CZ, CC, hH⟩ := hrel
  by_cases hlt : k < 64
  ·obtain ⟨q, hqk, hq4⟩ : ∃ q : Nat, k / 4 = q ∧ q < 16 := ⟨k / 4, rfl, by omega⟩
   have hq : (k : Int).tdiv 4 = q := by rw [Int.tdiv_eq_ediv_of_nonneg (by omega)]; omega
   have wq : IntKind.i64.wrap (q : Int) = q := by rw [IntKind.wrap_i64]; omega
   have lq : (q : Int) < 16 := by omega
   have l0 : (k : Int) < 64 := by omega
   have l0' : (k : Int) < t.size := by omega
   have hks : k < t.size := by omega
   have m0 := CC.c q hq4
   obtain ⟨v, hv⟩ : ∃ v, h q = v := ⟨_, rfl⟩
   rw [hv] at m0
   obtain ⟨y, hy⟩ : ∃ y, s_bt t k = y := ⟨_, rfl⟩
   have hyb := jfl t k
   rw [hy] at hyb
   have hu1 : IntKind.u32.wrap (((t[k]'hks).toNat : Nat) : Int) = y := by rw [s_bt_get, hy, IntKind.wrap_u32]; omega
   have HB : Hid (k / 4 = q ∧ h q = v ∧ s_bt t k = y) := ⟨hqk, hv, hy⟩
   clear hqk hv hy
   go_wp2
   have k0 := cell_regrown m0
   refine jar 12 (by kernel_rfl) (by kernel_rfl) ?_
   simp only [List.take_succ_cons, List.take_zero, List.drop_succ_cons, List.drop_zero]
   iterate 12 (quiet_step (fail))
   refine wpQuiet_nil ?_
   intro w8 hw8
   have hb8 : Below wr.heap.size wr w8 := by
    obtain ⟨p, rfl⟩ := hw8
    exact below_regrown _ _ _
   have Z8 := CZ.below hb8
   have C8 := CC.below hb8
   have G8 := jaa BW (by rw [← HZ.out] at BW ⊢; exact BW.size) hb8
   clear hw8 hb8 k0 CC CZ BW m0
   have n0 := C8.c q hq4
   have sf := C8.f
   have sz := C8.z
   go_wp2
   go_roundg (gk - 1)
   case measure => omega
   case rel =>
    refine ⟨k + 1, fun j => if j = q then bits .or .u32 (v * 256 % 4294967296) y else h j, by omega, rfl, G8.setCell (p := ⟨c, q, none⟩) (by dsimp only; omega) _, Z8.setCell _ (by dsimp only; omega) _, C8.put q hq4 _ (fun j _ => by by_cases e : j = q <;> simp [e]), ?_⟩
    intro j hj
    have hJ := hH.out j hj
    obtain ⟨g1, g2, g3⟩ := HB.out
    show (if j = q then bits .or .u32 (v * 256 % 4294967296) y else h j) = _
    by_cases e0 : j = q
    ·subst e0
     rw [if_pos rfl, show min 4 (k + 1 - 4 * j) = (k - 4 * j) + 1 by omega, num, show 4 * j + (k - 4 * j) = k by omega, g3, ← g2, hJ, show min 4 (k - 4 * j) = k - 4 * j by omega]
    ·rw [if_neg e0, hJ]
     by_cases h1 : j < q
     ·rw [show min 4 (k + 1 - 4 * j) = 4 by omega, show min 4 (k - 4 * j) = 4 by omega]
     ·rw [show min 4 (k + 1 - 4 * j) = 0 by omega, show min 4 (k - 4 * j) = 0 by omega]
  ·have hk2 : k = 64 := by omega
   subst hk2
   clear hlt
   have e : Hid ((fl 16 fun j => .int .u32 (h j)) = (fl 16 fun j => .int .u32 (wordAt t j))) := fl_ext _ _ _ fun j hj => by show Value.int .u32 _ = .int .u32 _; rw [hH.out j hj, wordAt, show min 4 (64 - 4 * j) = 4 by omega]
   have hst := CZ.run (P := Tryz.prog) (fun j => .int .u32 (h j)) (fun _ => rfl)
   obtain ⟨l, hl⟩ : ∃ l, (fl 16 fun j => .int .u32 (h j)) = l := ⟨_, rfl⟩
   have hr := CC.range
   have hr2 := (CZ.store (fun j => .int .u32 (h j))).range
   have hlen : l.length = 16 := by rw [← hl]; exact jcb _ _
   rw [hl] at e hst hr hr2
   clear hl
   go_wp2_with (refine wpList_load_mid rfl 155 _ rfl c 0 rfl l _ hr Tryz.underlying155 rfl (by rw [hlen]; exact size_bw) ?_)
   refine bodyPost_ret (v := .agg l.toArray) (jcs Tryz.results148 _ _ z l _ rfl hr2 Tryz.underlying155 rfl (by rw [hlen]; exact size_bw)) rfl ⟨by rw [e.out], ?_⟩
   rw [HZ.out]
   exact jap (Nat.le_refl _) _ _ _ BW
def nxt (f : Nat → Int) (t : Nat) : Int := (((f (t - 16) + s0 (f (t - 15))) % 4294967296 + f (t - 7)) % 4294967296 + s1 (f (t - 2))) % 4294967296
def spN (b : Nat → Int) : Nat → Nat → Int
 | 0 => fun j => if j < 16 then b j else 0
 | n + 1 => fun j => if j = 16 + n then nxt (spN b n) (16 + n) else spN b n j
def jbb (b : Nat → Int) : Nat → Int := spN b 48
theorem index_bw (A : Array Value) (k : Nat) (x : Int) (hk : k < 16) (hA : A[k]? = some (.int .u32 x)) (w : World) :
  (Instr.index 155 (.agg A) (.int .i64 k)).run Tryz.prog w = .ok (.int .u32 x) w := by
 simp [Instr.index, asIntOf, run_underlying Tryz.underlying155, go_sem, hA, hk]
theorem jfw : (Tryz.prog.info? 144).map (·.size) = some 64 := by kernel_rfl
theorem spread_any (b : Nat → Int) (w : World) :
  Calls Tryz.prog 114 #[.agg (fl 16 fun j => .int .u32 (b j)).toArray] w fun e w' =>
   e = .returned (.agg (fl 64 fun j => .int .u32 (jbb b j)).toArray) ∧ Below w.heap.size w w' := by
 have e16 : (fl 16 fun j => .int .u32 (b j)).toArray = #[.int .u32 (b 0), .int .u32 (b 1), .int .u32 (b 2), .int .u32 (b 3), .int .u32 (b 4), .int .u32 (b 5), .int .u32 (b 6), .int .u32 (b 7), .int .u32 (b 8), .int .u32 (b 9), .int .u32 (b 10), .int .u32 (b 11), .int .u32 (b 12), .int .u32 (b 13), .int .u32 (b 14), .int .u32 (b 15)] := rfl
 rw [e16]
 go_enter Tryz.func114, Tryz.ntmps114
 go_wp2
 refine wpOf (fun W => Below w.heap.size w W ∧ Fw (w.heap.size + 1) 64 (fun _ => .int .u32 0) W ∧ Fw (w.heap.size + 1 + 1) 64 (fun _ => .int .u32 0) W) ⟨(((Below.refl _ w).alloc (Nat.le_refl _) _).alloc (by simp) _).alloc (by simp; omega) _, Fw.alloc (Fw.lit _ _ (by simp) rfl) _, Fw.lit _ _ (by simp) rfl⟩ ?_
 rintro V ⟨BV, ZV, CV⟩
 obtain ⟨A, hA⟩ : ∃ A : Array Value, #[.int .u32 (b 0), .int .u32 (b 1), .int .u32 (b 2), .int .u32 (b 3), .int .u32 (b 4), .int .u32 (b 5), .int .u32 (b 6), .int .u32 (b 7), .int .u32 (b 8), .int .u32 (b 9), .int .u32 (b 10), .int .u32 (b 11), .int .u32 (b 12), .int .u32 (b 13), .int .u32 (b 14), .int .u32 (b 15)] = A := ⟨_, rfl⟩
 have hAk : ∀ j, j < 16 → A[j]? = some (.int .u32 (b j)) := fun j hj => by
  rw [← hA, ← e16]
  simpa using fl_at 16 (fun j => .int .u32 (b j)) j hj
 rw [hA]
 have HA : Hid (∀ j, j < 16 → A[j]? = some (.int .u32 (b j))) := hAk
 clear hA e16 hAk
 obtain ⟨z, hz⟩ : ∃ c, w.heap.size = c := ⟨_, rfl⟩
 have HZ : Hid (w.heap.size = z) := hz
 rw [hz] at BV ZV CV ⊢
 clear hz
 obtain ⟨c, hc⟩ : ∃ c, z + 1 = c := ⟨_, rfl⟩
 rw [hc] at ZV CV ⊢
 obtain ⟨d, hd⟩ : ∃ d, c + 1 = d := ⟨_, rfl⟩
 rw [hd] at CV ⊢
 go_loopg [8] 16 (fun gk i wr => ∃ k : Nat, ∃ h : Nat → Int, k + gk = 16 ∧ i = .int .i64 k ∧ Below z w wr ∧ Fw c 64 (fun _ => .int .u32 0) wr ∧ Fw d 64 (fun j => .int .u32 (h j)) wr ∧ Hid (∀ j, j < 64 → h j = if j < k then b j else 0))
 case atStart => exact ⟨0, fun _ => 0, rfl, rfl, BV, ZV, CV, fun j _ => by rw [if_neg (by omega)]⟩
 case round =>
  clear BV ZV CV
  obtain ⟨k, h, hk, rfl, BW, CZ, CC, hH⟩ := hrel
  by_cases hlt : k < 16
  ·have l0 : (k : Int) < 16 := by omega
   have l1 : (k : Int) < 64 := by omega
   have hi := fun w => index_bw A k (b k) hlt (HA.out k hlt) w
   obtain ⟨y, hy⟩ : ∃ y, b k = y := ⟨_, rfl⟩
   rw [hy] at hi
   have n0 := CC.c k (by omega)
   have sf := CC.f
   have sz := CC.z
   have HY : Hid (b k = y) := hy
   clear hy
   go_wp2
   go_roundg (gk - 1)
   case measure => omega
   case rel =>
    refine ⟨k + 1, fun j => if j = k then y else h j, by omega, rfl, BW.setCell (p := ⟨d, k, none⟩) (by dsimp only; omega) _, CZ.setCell _ (by dsimp only; omega) _, CC.put k (by omega) _ (fun j _ => by by_cases e : j = k <;> simp [e]), ?_⟩
    intro j hj
    have hJ := hH.out j hj
    show (if j = k then y else h j) = _
    by_cases e0 : j = k
    ·rw [if_pos e0, e0, if_pos (by omega), HY.out]
    rw [if_neg e0, hJ]
    by_cases h1 : j < k
    ·rw [if_pos h1, if_pos (by omega)]
    ·rw [if_neg h1, if_neg (by omega)]
  ·have hk2 : k = 16 := by omega
   subst hk2
   clear hlt
   have CC2 := CC.ext (h := fun j => .int .u32 (spN b 0 j)) (fun j hj => by show Value.int .u32 _ = .int .u32 _; rw [hH.out j hj]; rfl)
   clear CC hH
   go_wp2
   go_loopg [6] 48 (fun gk i wr => ∃ t : Nat, ∃ h : Nat → Int, t + gk = 64 ∧ 16 ≤ t ∧ i = .int .i64 t ∧ Below z w wr ∧ Fw c 64 (fun _ => .int .u32 0) wr ∧ Fw d 64 (fun j => .int .u32 (h j)) wr ∧ Hid (h = spN b (t - 16)))
   case atStart => exact ⟨16, _, by omega, by omega, rfl, BW, CZ, CC2, (rfl : _ = _)⟩
   case round =>
    clear BW CZ CC2
    obtain ⟨t, h, hk, ht, rfl, BW, CZ, CC, hH⟩ := hrel
    by_cases hlt : t < 64
    ·have l0 : (t : Int) < 64 := by omega
     obtain ⟨a, ha, ha2⟩ : ∃ a : Nat, t - 16 = a ∧ a < 64 := ⟨_, rfl, by omega⟩
     obtain ⟨e, he, he2⟩ : ∃ a : Nat, t - 15 = a ∧ a < 64 := ⟨_, rfl, by omega⟩
     obtain ⟨f, hf, hf2⟩ : ∃ a : Nat, t - 7 = a ∧ a < 64 := ⟨_, rfl, by omega⟩
     obtain ⟨g, hg, hg2⟩ : ∃ a : Nat, t - 2 = a ∧ a < 64 := ⟨_, rfl, by omega⟩
     have wa : IntKind.i64.wrap ((t : Int) - 16) = a := by rw [IntKind.wrap_i64]; omega
     have we : IntKind.i64.wrap ((t : Int) - 15) = e := by rw [IntKind.wrap_i64]; omega
     have wf : IntKind.i64.wrap ((t : Int) - 7) = f := by rw [IntKind.wrap_i64]; omega
     have wg : IntKind.i64.wrap ((t : Int) - 2) = g := by rw [IntKind.wrap_i64]; omega
     have la : (a : Int) < 64 := by omega
     have le : (e : Int) < 64 := by omega
     have lf : (f : Int) < 64 := by omega
     have lg : (g : Int) < 64 := by omega
     have m0 := CC.c a ha2
     have m1 := CC.c e he2
     have m2 := CC.c f hf2
     have m3 := CC.c g hg2
     obtain ⟨v0, hv0⟩ : ∃ v, h a = v := ⟨_, rfl⟩
     obtain ⟨v1, hv1⟩ : ∃ v, h e = v := ⟨_, rfl⟩
     obtain ⟨v2, hv2⟩ : ∃ v, h f = v := ⟨_, rfl⟩
     obtain ⟨v3, hv3⟩ : ∃ v, h g = v := ⟨_, rfl⟩
     rw [hv0] at m0
     rw [hv1] at m1
     rw [hv2] at m2
     rw [hv3] at m3
     have K0 : Hid (∀ w : World, _) := fun w : World => s0_any v1 w
     have K1 : Hid (∀ w : World, _) := fun w : World => s1_any v3 w
     obtain ⟨x0, hx0⟩ : ∃ v, s0 v1 = v := ⟨_, rfl⟩
     obtain ⟨x1, hx1⟩ : ∃ v, s1 v3 = v := ⟨_, rfl⟩
     rw [hx0] at K0
     rw [hx1] at K1
     have HV : Hid (nxt h t = ((v0 + x0) % 4294967296 + v2) % 4294967296 + x1 - (((v0 + x0) % 4294967296 + v2) % 4294967296 + x1) / 4294967296 * 4294967296) := by
      show _ = _
      rw [nxt, ha, he, hf, hg, hv0, hv1, hv2, hv3, hx0, hx1]
      omega
     clear ha he hf hg hv0 hv1 hv2 hv3 hx0 hx1
     go_wp2
     have k0 := cell_regrown m0
     have k1 := cell_regrown m1
     have k2 := cell_regrown m2
     have k3 := cell_regrown m3
     have c0 := jae (w := wr) K0.out
     have c1 := jae (w := wr) K1.out
     refine jar 22 (by kernel_rfl) (by kernel_rfl) ?_
     simp only [List.take_succ_cons, List.take_zero, List.drop_succ_cons, List.drop_zero]
     iterate 9 (quiet_step (fail))
     quiet_step (exact c0 _ _)
     iterate 10 (quiet_step (fail))
     quiet_step (exact c1 _ _)
     iterate 1 (quiet_step (fail))
     refine wpQuiet_nil ?_
     intro w8 hw8
     have hb8 : Below wr.heap.size wr w8 := by
      obtain ⟨p, rfl⟩ := hw8
      exact below_regrown _ _ _
     have Z8 := CZ.below hb8
     have C8 := CC.below hb8
     have G8 := jaa BW (by rw [← HZ.out] at BW ⊢; exact BW.size) hb8
     clear hw8 hb8 k0 k1 k2 k3 c0 c1 K0 K1 CC CZ BW m0 m1 m2 m3
     have n0 := C8.c t hlt
     have sf := C8.f
     have sz := C8.z
     go_wp2
     go_roundg (gk - 1)
     case measure => omega
     case rel =>
      refine ⟨t + 1, fun j => if j = t then nxt h t else h j, by omega, by omega, rfl, G8.setCell (p := ⟨d, t, none⟩) (by dsimp only; omega) _, Z8.setCell _ (by dsimp only; omega) _, C8.put t hlt _ (fun j _ => ?_), ?_⟩
      ·show Value.int .u32 (if j = t then nxt h t else h j) = _
       by_cases q : j = t
       ·rw [if_pos q, if_pos q, HV.out]
        congr 1
        omega
       ·rw [if_neg q, if_neg q]
      ·show _ = _
       rw [show t + 1 - 16 = (t - 16) + 1 by omega, spN, show 16 + (t - 16) = t by omega, ← hH.out]
    ·have hk2 : t = 64 := by omega
     subst hk2
     clear hlt
     have e : Hid ((fl 64 fun j => .int .u32 (h j)) = (fl 64 fun j => .int .u32 (jbb b j))) := by show _ = _; rw [hH.out]; rfl
     have hst := CZ.run (P := Tryz.prog) (fun j => .int .u32 (h j)) (fun _ => rfl)
     obtain ⟨l, hl⟩ : ∃ l, (fl 64 fun j => .int .u32 (h j)) = l := ⟨_, rfl⟩
     have hr := CC.range
     have hr2 := (CZ.store (fun j => .int .u32 (h j))).range
     have hlen : l.length = 64 := by rw [← hl]; exact jcb _ _
     rw [hl] at e hst hr hr2
     clear hl
     go_wp2_with (refine wpList_load_mid rfl 144 _ rfl d 0 rfl l _ hr Tryz.underlying144 rfl (by rw [hlen]; exact jfw) ?_)
     refine bodyPost_ret (v := .agg l.toArray) (jcs Tryz.results114 _ _ c l _ rfl hr2 Tryz.underlying144 rfl (by rw [hlen]; exact jfw)) rfl ⟨by rw [e.out], ?_⟩
     rw [HZ.out]
     exact jap (by omega) _ _ _ BW
end Go.Proofs.YtoddangedbefgabGreatDoor
