/- Lemmas: What the program's named does. No condition. What the program's From does. No condition. What is read out of five bytes, pure. No condition. What the reference's Bytes, From do. No condition. -/
import Derived.Test.YtoddangedbefgabGreatDoorM12
set_option maxRecDepth 20000
set_option maxHeartbeats 16000000
namespace Go.Proofs.YtoddangedbefgabGreatDoor
open Go.RowKit Go.Shelf Go.Sort
theorem ofInt_nat64 (x : Nat) (hx : x < 18446744073709551616) : (BitVec.ofInt 64 (x : Int)).toNat = x := by
 rw [BitVec.toNat_ofInt]
 omega
theorem or_nat64 (x y : Nat) (hx : x < 18446744073709551616) (hy : y < 18446744073709551616) : bits .or .u64 (x : Int) (y : Int) = ((x ||| y : Nat) : Int) := by
 have h : (x ||| y) < 2 ^ 64 := Nat.or_lt_two_pow hx hy
 have e : bits .or .u64 (x : Int) (y : Int) = IntKind.u64.wrap (((BitVec.ofInt 64 (x : Int)) ||| (BitVec.ofInt 64 (y : Int))).toNat : Int) := rfl
 rw [e, BitVec.toNat_or, ofInt_nat64 x hx, ofInt_nat64 y hy, IntKind.wrap_u64]
 omega
def btN (s : ByteArray) (i : Nat) : Nat := (s.data.getD i 0).toNat
theorem bt_N (s : ByteArray) (i : Nat) : bt s i = (btN s i : Int) := rfl
theorem jbr (s : ByteArray) (i : Nat) : btN s i < 256 := (s.data.getD i 0).toNat_lt
def fourN (y1 y2 y3 y4 : Nat) : Nat := y1 * 16777216 + y2 * 65536 + y3 * 256 + y4
theorem four_lt (y1 y2 y3 y4 : Nat) (h1 : y1 < 256) (h2 : y2 < 256) (h3 : y3 < 256) (h4 : y4 < 256) : fourN y1 y2 y3 y4 < 4294967296 := by unfold fourN; omega
theorem shl_n (y k : Nat) (h : y * k < 18446744073709551616) : IntKind.u64.wrap ((y : Int) * (k : Int)) = ((y * k : Nat) : Int) := by
 rw [← Int.natCast_mul, IntKind.wrap_u64]
 omega
theorem or_1 (y1 y2 : Nat) (h1 : y1 < 256) (h2 : y2 < 256) : bits .or .u64 ((y1 * 16777216 : Nat) : Int) ((y2 * 65536 : Nat) : Int) = ((y1 * 16777216 + y2 * 65536 : Nat) : Int) := by
 rw [or_nat64 _ _ (by omega) (by omega)]
 have := Nat.two_pow_add_eq_or_of_lt (i := 24) (b := y2 * 65536) (by omega) y1
 rw [show 2 ^ 24 * y1 = y1 * 16777216 by omega] at this
 rw [this]
theorem or_2 (m y3 : Nat) (h1 : m < 65536) (h2 : y3 < 256) : bits .or .u64 ((m * 65536 : Nat) : Int) ((y3 * 256 : Nat) : Int) = ((m * 65536 + y3 * 256 : Nat) : Int) := by
 rw [or_nat64 _ _ (by omega) (by omega)]
 have := Nat.two_pow_add_eq_or_of_lt (i := 16) (b := y3 * 256) (by omega) m
 rw [show 2 ^ 16 * m = m * 65536 by omega] at this
 rw [this]
theorem or_3 (m y4 : Nat) (h1 : m < 16777216) (h2 : y4 < 256) : bits .or .u64 ((m * 256 : Nat) : Int) (y4 : Int) = ((m * 256 + y4 : Nat) : Int) := by
 rw [or_nat64 _ _ (by omega) (by omega)]
 have := Nat.two_pow_add_eq_or_of_lt (i := 8) (b := y4) (by omega) m
 rw [show 2 ^ 8 * m = m * 256 by omega] at this
 rw [this]
structure Four (y1 y2 y3 y4 m1 m2 m3 n1 n2 x : Nat) : Prop where
 s1 : IntKind.u64.wrap ((y1 : Int) * 16777216) = (m1 : Int)
 s2 : IntKind.u64.wrap ((y2 : Int) * 65536) = (m2 : Int)
 s3 : IntKind.u64.wrap ((y3 : Int) * 256) = (m3 : Int)
 o1 : bits .or .u64 (m1 : Int) (m2 : Int) = (n1 : Int)
 o2 : bits .or .u64 (n1 : Int) (m3 : Int) = (n2 : Int)
 o3 : bits .or .u64 (n2 : Int) (y4 : Int) = (x : Int)
theorem four_of (y1 y2 y3 y4 : Nat) (h1 : y1 < 256) (h2 : y2 < 256) (h3 : y3 < 256) (h4 : y4 < 256) : ∃ m1 m2 m3 n1 n2, Four y1 y2 y3 y4 m1 m2 m3 n1 n2 (fourN y1 y2 y3 y4) := by
 refine ⟨y1 * 16777216, y2 * 65536, y3 * 256, y1 * 16777216 + y2 * 65536, y1 * 16777216 + y2 * 65536 + y3 * 256, ?_, ?_, ?_, or_1 y1 y2 h1 h2, ?_, ?_⟩
 ·exact shl_n y1 16777216 (by omega)
 ·exact shl_n y2 65536 (by omega)
 ·exact shl_n y3 256 (by omega)
 ·have := or_2 (y1 * 256 + y2) y3 (by omega) h3
  rw [show (y1 * 256 + y2) * 65536 = y1 * 16777216 + y2 * 65536 by omega] at this
  exact this
 ·have := or_3 (y1 * 65536 + y2 * 256 + y3) y4 (by omega) h4
  rw [show (y1 * 65536 + y2 * 256 + y3) * 256 = y1 * 16777216 + y2 * 65536 + y3 * 256 by omega] at this
  exact this
theorem Tb.setY {n : Nat} {p : Pt} {W : World} (h : Tb n p W) (r : Nat) : Tb n ⟨p.X, r, p.I⟩ (W.setCell ⟨n, 1, none⟩ (.int .u64 (r : Int))) := by
 obtain ⟨z, a, b, c, f⟩ := h
 exact ⟨by simp [go_sem, *], by simp [go_sem, *], by simp [go_sem, *], by simp [go_sem, *], by simp [go_sem, *]⟩
theorem Tb.otherC {n g : Nat} {p : Pt} {W : World} (h : Tb n p W) (hg : g ≠ n) (o : Nat) (u : Value) : Tb n p (W.setCell ⟨g, o, none⟩ u) := by
 obtain ⟨z, a, b, c, f⟩ := h
 have hg' : n ≠ g := fun e => hg e.symm
 exact ⟨by simp [go_sem, *], by simp [go_sem, *], by simp [go_sem, *], by simp [go_sem, *], by simp [go_sem, *]⟩
def nmX (s : ByteArray) : Nat := fourN (btN s 1) (btN s 2) (btN s 3) (btN s 4)
def nmN (s : ByteArray) : Pt := if btN s 0 = 0 then iN else if btN s 0 = 3 then ngN ⟨nmX s, roN (sqN (nmX s)), false⟩ else ⟨nmX s, roN (sqN (nmX s)), false⟩
structure NmD (V : World) (s : ByteArray) (y1 y2 y3 y4 m1 m2 m3 n1 n2 x : Nat) (S : Nat → Bool) (x3 x8 x9 x10 x11 x12 x13 x14 x15 x16 x17 x18 x19 x20 x21 x22 x23 x24 x25 x26 : Value) (W : World) : Prop where
 e : Below V.heap.size V W
 f0 : S 0 = true → x8 = .string s
 f1 : S 1 = true → x9 = .int .u8 (y1 : Int)
 f2 : S 2 = true → x10 = .int .u64 (y1 : Int)
 f3 : S 3 = true → x11 = .int .u64 (m1 : Int)
 f4 : S 4 = true → x12 = .string s
 f5 : S 5 = true → x13 = .int .u8 (y2 : Int)
 f6 : S 6 = true → x14 = .int .u64 (y2 : Int)
 f7 : S 7 = true → x15 = .int .u64 (m2 : Int)
 f8 : S 8 = true → x16 = .int .u64 (n1 : Int)
 f9 : S 9 = true → x17 = .string s
 f10 : S 10 = true → x18 = .int .u8 (y3 : Int)
 f11 : S 11 = true → x19 = .int .u64 (y3 : Int)
 f12 : S 12 = true → x20 = .int .u64 (m3 : Int)
 f13 : S 13 = true → x21 = .int .u64 (n2 : Int)
 f14 : S 14 = true → x22 = .string s
 f15 : S 15 = true → x23 = .int .u8 (y4 : Int)
 f16 : S 16 = true → x24 = .int .u64 (y4 : Int)
 f17 : S 17 = true → x25 = .int .u64 (x : Int)
 f18 : S 18 = true → x26 = .agg #[.int .u64 (x : Int), .int .u64 0, .bool false]
 f19 : S 19 = true → ∃ b, x3 = .pointer (some ⟨b, 0, none⟩) ∧ V.heap.size ≤ b ∧ Tb b oP W
theorem NmD.grow {V : World} {s : ByteArray} {y1 y2 y3 y4 m1 m2 m3 n1 n2 x : Nat} {S : Nat → Bool} {x3 x8 x9 x10 x11 x12 x13 x14 x15 x16 x17 x18 x19 x20 x21 x22 x23 x24 x25 x26 : Value} {W W' : World} (h : NmD V s y1 y2 y3 y4 m1 m2 m3 n1 n2 x S x3 x8 x9 x10 x11 x12 x13 x14 x15 x16 x17 x18 x19 x20 x21 x22 x23 x24 x25 x26 W) (hb : Below W.heap.size W W') : NmD V s y1 y2 y3 y4 m1 m2 m3 n1 n2 x S x3 x8 x9 x10 x11 x12 x13 x14 x15 x16 x17 x18 x19 x20 x21 x22 x23 x24 x25 x26 W' :=
 ⟨jaa h.e h.e.size hb, h.f0, h.f1, h.f2, h.f3, h.f4, h.f5, h.f6, h.f7, h.f8, h.f9, h.f10, h.f11, h.f12, h.f13, h.f14, h.f15, h.f16, h.f17, h.f18, fun s => (let ⟨b, e, hz, t⟩ := (h.f19 s); ⟨b, e, hz, t.below hb⟩)⟩
theorem named_any (s : ByteArray) (hs : s.size = 5) (w : World) (hL : Li w) :
  Calls Tryz.prog 156 #[.string s] w fun e w' => e = .returned (vT (nmN s)) ∧ Below w.heap.size w w' := by
 have lq := (hL).ne
 have ⟨lz, la, lb, lc, lo⟩ := hL
 have g0 := jbt s 0 (by omega)
 have g1 := jbt s 1 (by omega)
 have g2 := jbt s 2 (by omega)
 have g3 := jbt s 3 (by omega)
 have g4 := jbt s 4 (by omega)
 have q1 := jbr s 1
 have q2 := jbr s 2
 have q3 := jbr s 3
 have q4 := jbr s 4
 have q0 := jbr s 0
 rw [bt_N] at g0 g1 g2 g3 g4
 obtain ⟨m1, m2, m3, n1, n2, F4⟩ := four_of _ _ _ _ q1 q2 q3 q4
 have hx4 := four_lt _ _ _ _ q1 q2 q3 q4
 unfold nmN
 have eX : nmX s = fourN (btN s 1) (btN s 2) (btN s 3) (btN s 4) := rfl
 rw [← eX] at F4 hx4
 clear eX
 obtain ⟨x, ex⟩ : ∃ x, nmX s = x := ⟨_, rfl⟩
 rw [ex] at F4 hx4 ⊢
 obtain ⟨y0, e0⟩ : ∃ y, btN s 0 = y := ⟨_, rfl⟩
 obtain ⟨y1, e1⟩ : ∃ y, btN s 1 = y := ⟨_, rfl⟩
 obtain ⟨y2, e2⟩ : ∃ y, btN s 2 = y := ⟨_, rfl⟩
 obtain ⟨y3, e3⟩ : ∃ y, btN s 3 = y := ⟨_, rfl⟩
 obtain ⟨y4, e4⟩ : ∃ y, btN s 4 = y := ⟨_, rfl⟩
 rw [e1, e2, e3, e4] at F4
 rw [e0] at g0 q0 ⊢
 rw [e1] at g1 q1
 rw [e2] at g2 q2
 rw [e3] at g3 q3
 rw [e4] at g4 q4
 clear ex e0 e1 e2 e3 e4
 obtain ⟨s1, s2, s3, o1, o2, o3⟩ := F4
 have t1 : IntKind.u64.wrap (y1 : Int) = (y1 : Int) := by rw [IntKind.wrap_u64]; omega
 have t2 : IntKind.u64.wrap (y2 : Int) = (y2 : Int) := by rw [IntKind.wrap_u64]; omega
 have t3 : IntKind.u64.wrap (y3 : Int) = (y3 : Int) := by rw [IntKind.wrap_u64]; omega
 have t4 : IntKind.u64.wrap (y4 : Int) = (y4 : Int) := by rw [IntKind.wrap_u64]; omega
 by_cases h0 : y0 = 0
 ·rw [if_pos h0]
  subst h0
  go_enter Tryz.func156, Tryz.ntmps156
  go_wp2_with fail
  refine bodyPost_ret (v := vT iN) (by simp [results, Tryz.results156, go_sem, iN, *]) rfl ⟨rfl, by go_grown⟩
 rw [if_neg h0]
 have h0' : ¬ (y0 : Int) = 0 := by omega
 have h0'' : ((y0 : Int) == 0) = false := by rw [beq_eq_false_iff_ne]; exact h0'
 have C1 := square_any x (by unfold U64; omega)
 have hq := sq_lt x
 obtain ⟨q, eq⟩ : ∃ q, sqN x = q := ⟨_, rfl⟩
 rw [eq] at C1 hq ⊢
 have C2 := root_any q (pm_u _ hq)
 have hr := ro_lt q
 obtain ⟨r, er⟩ : ∃ r, roN q = r := ⟨_, rfl⟩
 obtain ⟨rb, erb⟩ : ∃ b, roB q = b := ⟨_, rfl⟩
 rw [er, erb] at C2
 rw [er] at hr ⊢
 clear eq er erb
 have C3 := jer ⟨x, r, false⟩ ⟨by show x < _; omega, pm_u _ hr⟩
 obtain ⟨n, en⟩ : ∃ n, ngN ⟨x, r, false⟩ = n := ⟨_, rfl⟩
 rw [en] at C3 ⊢
 clear en
 obtain ⟨fv, hfv⟩ : ∃ v : Pt, (if y0 = 3 then n else ⟨x, r, false⟩) = v := ⟨_, rfl⟩
 rw [hfv]
 have HF : Hid ((if y0 = 3 then n else (⟨x, r, false⟩ : Pt)) = fv) := hfv
 clear hfv
 go_enter Tryz.func156, Tryz.ntmps156
 go_wp2_with fail
 refine wpOf (fun V => Below w.heap.size w V ∧ Tb w.heap.size oP V) ⟨by go_grown, Tb.new' w oP 72 _ rfl⟩ ?_
 rintro V ⟨BV, hO⟩
 have HV : Hid (_ ∧ _) := ⟨BV, hO⟩
 clear BV hO lq la lb lc lz lo hL
 refine jaw 20 (fun S aa W => ∃ x3 x8 x9 x10 x11 x12 x13 x14 x15 x16 x17 x18 x19 x20 x21 x22 x23 x24 x25 x26 : Value, aa = { tmps := #[.string s, undef, .pointer (some ⟨w.heap.size, 0, none⟩), x3, .string s, .int .u8 (y0 : Int), .bool false, undef, x8, x9, x10, x11, x12, x13, x14, x15, x16, x17, x18, x19, x20, x21, x22, x23, x24, x25, x26, undef, undef, undef, undef, undef, undef, undef, undef, undef, undef, undef, undef, undef, undef], defers := [] } ∧ NmD V s y1 y2 y3 y4 m1 m2 m3 n1 n2 x S x3 x8 x9 x10 x11 x12 x13 x14 x15 x16 x17 x18 x19 x20 x21 x22 x23 x24 x25 x26 W) (by kernel_rfl) (by kernel_rfl) ?_ ?_ ?_
 ·exact ⟨undef, undef, undef, undef, undef, undef, undef, undef, undef, undef, undef, undef, undef, undef, undef, undef, undef, undef, undef, undef, rfl, ⟨(Below.refl _ V).drew, nofun, nofun, nofun, nofun, nofun, nofun, nofun, nofun, nofun, nofun, nofun, nofun, nofun, nofun, nofun, nofun, nofun, nofun, nofun, nofun⟩⟩
 ·intro i o S aa W hin hi hun hJ hall K hK
  obtain ⟨x3, x8, x9, x10, x11, x12, x13, x14, x15, x16, x17, x18, x19, x20, x21, x22, x23, x24, x25, x26, rfl, h⟩ := hJ
  have hlt : i < 20 := hin
  have hcase : i = 0 ∨ i = 1 ∨ i = 2 ∨ i = 3 ∨ i = 4 ∨ i = 5 ∨ i = 6 ∨ i = 7 ∨ i = 8 ∨ i = 9 ∨ i = 10 ∨ i = 11 ∨ i = 12 ∨ i = 13 ∨ i = 14 ∨ i = 15 ∨ i = 16 ∨ i = 17 ∨ i = 18 ∨ i = 19 := by omega
  rcases hcase with rfl | rfl | rfl | rfl | rfl | rfl | rfl | rfl | rfl | rfl | rfl | rfl | rfl | rfl | rfl | rfl | rfl | rfl | rfl | rfl
  all_goals (have ho := (Option.some.inj hi).symm; subst ho; clear hi hlt hin)
  ·go_simp
   exact hK _ _ ⟨_, _, _, _, _, _, _, _, _, _, _, _, _, _, _, _, _, _, _, _, rfl, { h with f0 := fun _ => rfl }⟩
  ·have s_0 : S 0 = true := hall ⟨0, .data⟩ (by simp) rfl
   obtain rfl := h.f0 s_0
   go_simp
   exact hK _ _ ⟨_, _, _, _, _, _, _, _, _, _, _, _, _, _, _, _, _, _, _, _, rfl, { h with f1 := fun _ => rfl }⟩
  ·have s_1 : S 1 = true := hall ⟨1, .data⟩ (by simp) rfl
   obtain rfl := h.f1 s_1
   go_simp
   exact hK _ _ ⟨_, _, _, _, _, _, _, _, _, _, _, _, _, _, _, _, _, _, _, _, rfl, { h with f2 := fun _ => rfl }⟩
  ·have s_2 : S 2 = true := hall ⟨2, .data⟩ (by simp) rfl
   obtain rfl := h.f2 s_2
   go_simp
   exact hK _ _ ⟨_, _, _, _, _, _, _, _, _, _, _, _, _, _, _, _, _, _, _, _, rfl, { h with f3 := fun _ => rfl }⟩
  ·go_simp
   exact hK _ _ ⟨_, _, _, _, _, _, _, _, _, _, _, _, _, _, _, _, _, _, _, _, rfl, { h with f4 := fun _ => rfl }⟩
  ·have s_4 : S 4 = true := hall ⟨4, .data⟩ (by simp) rfl
   obtain rfl := h.f4 s_4
   go_simp
   exact hK _ _ ⟨_, _, _, _, _, _, _, _, _, _, _, _, _, _, _, _, _, _, _, _, rfl, { h with f5 := fun _ => rfl }⟩
  ·have s_5 : S 5 = true := hall ⟨5, .data⟩ (by simp) rfl
   obtain rfl := h.f5 s_5
   go_simp
   exact hK _ _ ⟨_, _, _, _, _, _, _, _, _, _, _, _, _, _, _, _, _, _, _, _, rfl, { h with f6 := fun _ => rfl }⟩
  ·have s_6 : S 6 = true := hall ⟨6, .data⟩ (by simp) rfl
   obtain rfl := h.f6 s_6
   go_simp
   exact hK _ _ ⟨_, _, _, _, _, _, _, _, _, _, _, _, _, _, _, _, _, _, _, _, rfl, { h with f7 := fun _ => rfl }⟩
  ·have s_3 : S 3 = true := hall ⟨3, .data⟩ (by simp) rfl
   obtain rfl := h.f3 s_3
   have s_7 : S 7 = true := hall ⟨7, .data⟩ (by simp) rfl
   obtain rfl := h.f7 s_7
   go_simp
   exact hK _ _ ⟨_, _, _, _, _, _, _, _, _, _, _, _, _, _, _, _, _, _, _, _, rfl, { h with f8 := fun _ => rfl }⟩
  ·go_simp
   exact hK _ _ ⟨_, _, _, _, _, _, _, _, _, _, _, _, _, _, _, _, _, _, _, _, rfl, { h with f9 := fun _ => rfl }⟩
  ·have s_9 : S 9 = true := hall ⟨9, .data⟩ (by simp) rfl
   obtain rfl := h.f9 s_9
   go_simp
   exact hK _ _ ⟨_, _, _, _, _, _, _, _, _, _, _, _, _, _, _, _, _, _, _, _, rfl, { h with f10 := fun _ => rfl }⟩
  ·have s_10 : S 10 = true := hall ⟨10, .data⟩ (by simp) rfl
   obtain rfl := h.f10 s_10
   go_simp
   exact hK _ _ ⟨_, _, _, _, _, _, _, _, _, _, _, _, _, _, _, _, _, _, _, _, rfl, { h with f11 := fun _ => rfl }⟩
  ·have s_11 : S 11 = true := hall ⟨11, .data⟩ (by simp) rfl
   obtain rfl := h.f11 s_11
   go_simp
   exact hK _ _ ⟨_, _, _, _, _, _, _, _, _, _, _, _, _, _, _, _, _, _, _, _, rfl, { h with f12 := fun _ => rfl }⟩
  ·have s_8 : S 8 = true := hall ⟨8, .data⟩ (by simp) rfl
   obtain rfl := h.f8 s_8
   have s_12 : S 12 = true := hall ⟨12, .data⟩ (by simp) rfl
   obtain rfl := h.f12 s_12
   go_simp
   exact hK _ _ ⟨_, _, _, _, _, _, _, _, _, _, _, _, _, _, _, _, _, _, _, _, rfl, { h with f13 := fun _ => rfl }⟩
  ·go_simp
   exact hK _ _ ⟨_, _, _, _, _, _, _, _, _, _, _, _, _, _, _, _, _, _, _, _, rfl, { h with f14 := fun _ => rfl }⟩
  ·have s_14 : S 14 = true := hall ⟨14, .data⟩ (by simp) rfl
   obtain rfl := h.f14 s_14
   go_simp
   exact hK _ _ ⟨_, _, _, _, _, _, _, _, _, _, _, _, _, _, _, _, _, _, _, _, rfl, { h with f15 := fun _ => rfl }⟩
  ·have s_15 : S 15 = true := hall ⟨15, .data⟩ (by simp) rfl
   obtain rfl := h.f15 s_15
   go_simp
   exact hK _ _ ⟨_, _, _, _, _, _, _, _, _, _, _, _, _, _, _, _, _, _, _, _, rfl, { h with f16 := fun _ => rfl }⟩
  ·have s_13 : S 13 = true := hall ⟨13, .data⟩ (by simp) rfl
   obtain rfl := h.f13 s_13
   have s_16 : S 16 = true := hall ⟨16, .data⟩ (by simp) rfl
   obtain rfl := h.f16 s_16
   go_simp
   exact hK _ _ ⟨_, _, _, _, _, _, _, _, _, _, _, _, _, _, _, _, _, _, _, _, rfl, { h with f17 := fun _ => rfl }⟩
  ·have s_17 : S 17 = true := hall ⟨17, .data⟩ (by simp) rfl
   obtain rfl := h.f17 s_17
   go_simp
   exact hK _ _ ⟨_, _, _, _, _, _, _, _, _, _, _, _, _, _, _, _, _, _, _, _, rfl, { h with f18 := fun _ => rfl }⟩
  ·have h1 := h.grow ((Below.refl _ W).alloc (Nat.le_refl _) (.cells #[.int .u64 0, .int .u64 0, .bool false] 72))
   go_simp
   exact hK _ _ ⟨_, _, _, _, _, _, _, _, _, _, _, _, _, _, _, _, _, _, _, _, rfl, { h1 with f19 := fun _ => ⟨_, rfl, h.e.size, Tb.new' W oP 72 _ rfl⟩ }⟩
 ·rintro S aa W hall ⟨x3, x8, x9, x10, x11, x12, x13, x14, x15, x16, x17, x18, x19, x20, x21, x22, x23, x24, x25, x26, rfl, h⟩
  obtain rfl := h.f0 (hall 0 (by decide))
  obtain rfl := h.f1 (hall 1 (by decide))
  obtain rfl := h.f2 (hall 2 (by decide))
  obtain rfl := h.f3 (hall 3 (by decide))
  obtain rfl := h.f4 (hall 4 (by decide))
  obtain rfl := h.f5 (hall 5 (by decide))
  obtain rfl := h.f6 (hall 6 (by decide))
  obtain rfl := h.f7 (hall 7 (by decide))
  obtain rfl := h.f8 (hall 8 (by decide))
  obtain rfl := h.f9 (hall 9 (by decide))
  obtain rfl := h.f10 (hall 10 (by decide))
  obtain rfl := h.f11 (hall 11 (by decide))
  obtain rfl := h.f12 (hall 12 (by decide))
  obtain rfl := h.f13 (hall 13 (by decide))
  obtain rfl := h.f14 (hall 14 (by decide))
  obtain rfl := h.f15 (hall 15 (by decide))
  obtain rfl := h.f16 (hall 16 (by decide))
  obtain rfl := h.f17 (hall 17 (by decide))
  obtain rfl := h.f18 (hall 18 (by decide))
  obtain ⟨b, rfl, hbz, hTb⟩ := h.f19 (hall 19 (by decide))
  have BWD := h.e
  clear h hall
  obtain ⟨BV, hO⟩ := HV.out
  have BW := jaa BV BV.size BWD
  have O1 := hO.below BWD
  have hbw : w.heap.size < b := Nat.lt_of_lt_of_le hO.z hbz
  have P1 := hTb.over ⟨x, 0, false⟩
  have O1' := O1.other (g := b) ⟨x, 0, false⟩ (by omega)
  have BP := jah BW (g := b) (by omega) ⟨x, 0, false⟩
  obtain ⟨tz, ta, tb, tc, tf⟩ := hTb
  have HX : Hid (_ ∧ _ ∧ _) := ⟨BP, O1', P1⟩
  clear BV hO BW O1 P1 O1' BP BWD HV
  go_wp2_with fail
  refine jay (fun W => Below w.heap.size w W ∧ Tb w.heap.size oP W ∧ Tb b ⟨x, 0, false⟩ W) HX.out ?_
  rintro v1 ⟨BV, hO, hP⟩
  clear HX tz ta tb tc tf
  refine (C1 _).mono ?_
  rintro e v2 ⟨rfl, B2⟩
  have O2 := hO.below B2
  have P2' := hP.below B2
  have BW2 := jaa BV BV.size B2
  clear BV hO hP B2
  go_wp2_with fail
  refine (C2 _).mono ?_
  rintro e v3 ⟨rfl, B3⟩
  have O3 := O2.below B3
  have P3 := P2'.below B3
  have BW3 := jaa BW2 BW2.size B3
  clear BW2 O2 P2' B3
  have PZ : Tb b ⟨x, r, false⟩ (v3.setCell ⟨b, 1, none⟩ (.int .u64 (r : Int))) := P3.setY r
  have OZ : Tb w.heap.size oP (v3.setCell ⟨b, 1, none⟩ (.int .u64 (r : Int))) := O3.otherC (by omega) 1 _
  have BZ : Below w.heap.size w (v3.setCell ⟨b, 1, none⟩ (.int .u64 (r : Int))) := BW3.setCell (p := ⟨b, 1, none⟩) (by show _ ≤ b; omega) _
  have HX : Hid (_ ∧ _ ∧ _) := ⟨BZ, OZ, PZ⟩
  obtain ⟨tz, ta, tb, tc, tf⟩ := P3
  have ⟨oz, oa, ob, oc, of⟩ := O3
  have hne : w.heap.size ≠ b := by omega
  have hne' : b ≠ w.heap.size := by omega
  clear BW3 PZ OZ BZ
  by_cases h3 : y0 = 3
  ·subst h3
   go_wp2_with fail
   refine jay (fun W => Below w.heap.size w W ∧ Tb w.heap.size oP W ∧ Tb b ⟨x, r, false⟩ W) HX.out ?_
   rintro v4 ⟨BV, hO, hP⟩
   clear HX tz ta tb tc tf O3
   refine (C3 _).mono ?_
   rintro e v5 ⟨rfl, B5⟩
   obtain ⟨qz, qa, qb, qc, qf⟩ := hO.below B5
   have BW5 := jaa BV BV.size B5
   clear BV hO hP B5
   go_wp2_with fail
   refine bodyPost_ret (v := vT n) (by simp [results, Tryz.results156, go_sem, *]) rfl ⟨by rw [← HF.out, if_pos trivial], ?_⟩
   exact jah (y := n) BW5 (by omega)
  ·have h3' : ¬ (y0 : Int) = 3 := by omega
   have h3'' : ((y0 : Int) == 3) = false := by rw [beq_eq_false_iff_ne]; exact h3'
   go_wp2_with fail
   refine bodyPost_ret (v := vT ⟨x, r, false⟩) (by simp [results, Tryz.results156, go_sem, *]) rfl ⟨by rw [← HF.out, if_neg h3], ?_⟩
   exact jah (y := ⟨x, r, false⟩) HX.out.1 (Nat.le_refl _)
theorem ut_nm (s : ByteArray) : UT (nmN s) := by
 have hx : nmX s < 4294967296 := four_lt _ _ _ _ (jbr s 1) (jbr s 2) (jbr s 3) (jbr s 4)
 have hr := pm_u _ (ro_lt (sqN (nmX s)))
 unfold nmN
 split
 ·exact ⟨by decide, by decide⟩
 ·split
  ·exact ⟨by show nmX s < _; omega, pm_u _ (jde _ _)⟩
  ·exact ⟨by show nmX s < _; omega, hr⟩
theorem q_toList_inj {s t : ByteArray} (h : s.toList = t.toList) : s = t := by
 rw [ByteArray.toList_eq, ByteArray.toList_eq] at h
 have h2 : s.data = t.data := Array.toList_inj.1 h
 cases s
 cases t
 cases h2
 rfl
theorem ne_list {s t : ByteArray} (h : ¬ s = t) : (s.toList == t.toList) = false := by rw [beq_eq_false_iff_ne]; exact fun e => h (q_toList_inj e)
def frB (s : ByteArray) : Bool := decide (s.size = 5) && grN (nmN s) && decide (txF (fsN (nmN s)) (nmN s).X = s)
def frV (s : ByteArray) : Value := if frB s = true then okT (nmN s) else errT
abbrev bxQ (r : Pt) : Obj := .cells #[.int .u64 (r.X : Int), .int .u64 (r.Y : Int), .bool r.I] 72
theorem from_any (s : ByteArray) (w : World) (hL : Li w) :
  Calls Tryz.prog 140 #[.string s] w fun e w' => e = .returned (frV s) ∧ Below w.heap.size w w' := by
 have eV : frV s = if frB s = true then okT (nmN s) else errT := rfl
 rw [eV]
 by_cases h5 : s.size = 5
 ·have C1 := named_any s h5
  have C2 := bytes_any (nmN s) (ut_nm s)
  have eB : frB s = (grN (nmN s) && decide (txF (fsN (nmN s)) (nmN s).X = s)) := by unfold frB; rw [decide_eq_true h5, Bool.true_and]
  rw [eB]
  unfold bytV at C2
  obtain ⟨p, hp⟩ : ∃ p, nmN s = p := ⟨_, rfl⟩
  rw [hp] at C1 C2 ⊢
  have h5' : (s.size : Int) = 5 := by omega
  cases hg : grN p
  ·rw [hg] at C2
   rw [if_neg (by simp)] at C2 ⊢
   go_enter Tryz.func140, Tryz.ntmps140
   go_wp2_with fail
   refine jay (fun W => Below w.heap.size w W ∧ Tb w.heap.size oP W ∧ Li W) ⟨by go_grown, Tb.new' w oP 72 _ rfl, hL.alloc _⟩ ?_
   rintro v0 ⟨BV, hO, LV⟩
   refine (C1 _ LV).mono ?_
   rintro e w1 ⟨rfl, B1⟩
   have O1 := hO.below B1
   have LW1 := LV.below B1
   have BW1 := jaa BV BV.size B1
   have HX : Hid (_ ∧ _ ∧ _ ∧ _) := ⟨BW1.alloc BW1.size (bxQ p), O1.alloc (bxQ p), Tb.new' w1 p 72 _ rfl, LW1.alloc (bxQ p)⟩
   clear BV hO LV B1 O1 LW1 BW1
   go_wp2_with fail
   refine jay (fun W => Below w.heap.size w W ∧ Tb w.heap.size oP W ∧ Tb w1.heap.size p W ∧ Li W) HX.out ?_
   rintro v2 ⟨BV, hO, hP, LV⟩
   obtain ⟨n1, hn1⟩ : ∃ n, w1.heap.size = n := ⟨_, rfl⟩
   rw [hn1] at hP ⊢
   clear HX hn1 w1
   refine (C2 _ LV).mono ?_
   rintro e w3 ⟨rfl, B3⟩
   have O3 := hO.below B3
   have P3 := hP.below B3
   have BW3 := jaa BV BV.size B3
   clear BV hO hP LV B3
   have ⟨oz, oa, ob, oc, of⟩ := O3
   have ⟨pz, pa, pb, pc, pf⟩ := P3
   clear O3 P3
   go_wp2_with fail
   refine bodyPost_ret (v := errT) (by simp [oP, results, Tryz.results140, go_sem, *]) rfl ⟨rfl, ?_⟩
   exact jah (y := oP) BW3 (Nat.le_refl _)
  ·rw [hg] at C2
   rw [if_pos rfl] at C2
   obtain ⟨t, ht⟩ : ∃ t, txF (fsN p) p.X = t := ⟨_, rfl⟩
   rw [ht] at C2 ⊢
   clear ht eB eV
   by_cases hts : t = s
   ·subst hts
    rw [if_pos (by simp)]
    go_enter Tryz.func140, Tryz.ntmps140
    go_wp2_with fail
    refine jay (fun W => Below w.heap.size w W ∧ Tb w.heap.size oP W ∧ Li W) ⟨by go_grown, Tb.new' w oP 72 _ rfl, hL.alloc _⟩ ?_
    rintro v0 ⟨BV, hO, LV⟩
    refine (C1 _ LV).mono ?_
    rintro e w1 ⟨rfl, B1⟩
    have O1 := hO.below B1
    have LW1 := LV.below B1
    have BW1 := jaa BV BV.size B1
    have HX : Hid (_ ∧ _ ∧ _ ∧ _) := ⟨BW1.alloc BW1.size (bxQ p), O1.alloc (bxQ p), Tb.new' w1 p 72 _ rfl, LW1.alloc (bxQ p)⟩
    clear BV hO LV B1 O1 LW1 BW1
    go_wp2_with fail
    refine jay (fun W => Below w.heap.size w W ∧ Tb w.heap.size oP W ∧ Tb w1.heap.size p W ∧ Li W) HX.out ?_
    rintro v2 ⟨BV, hO, hP, LV⟩
    obtain ⟨n1, hn1⟩ : ∃ n, w1.heap.size = n := ⟨_, rfl⟩
    rw [hn1] at hP ⊢
    clear HX hn1 w1
    refine (C2 _ LV).mono ?_
    rintro e w3 ⟨rfl, B3⟩
    have O3 := hO.below B3
    have P3 := hP.below B3
    have BW3 := jaa BV BV.size B3
    clear BV hO hP LV B3
    have ⟨oz, oa, ob, oc, of⟩ := O3
    have ⟨pz, pa, pb, pc, pf⟩ := P3
    clear O3 P3
    go_wp2_with fail
    refine bodyPost_ret (v := okT p) (by simp [results, Tryz.results140, go_sem, *]) rfl ⟨rfl, ?_⟩
    exact jah (y := p) BW3 (Nat.le_refl _)
   ·rw [if_neg (by simp [hts])]
    have htl := ne_list hts
    go_enter Tryz.func140, Tryz.ntmps140
    go_wp2_with fail
    refine jay (fun W => Below w.heap.size w W ∧ Tb w.heap.size oP W ∧ Li W) ⟨by go_grown, Tb.new' w oP 72 _ rfl, hL.alloc _⟩ ?_
    rintro v0 ⟨BV, hO, LV⟩
    refine (C1 _ LV).mono ?_
    rintro e w1 ⟨rfl, B1⟩
    have O1 := hO.below B1
    have LW1 := LV.below B1
    have BW1 := jaa BV BV.size B1
    have HX : Hid (_ ∧ _ ∧ _ ∧ _) := ⟨BW1.alloc BW1.size (bxQ p), O1.alloc (bxQ p), Tb.new' w1 p 72 _ rfl, LW1.alloc (bxQ p)⟩
    clear BV hO LV B1 O1 LW1 BW1
    go_wp2_with fail
    refine jay (fun W => Below w.heap.size w W ∧ Tb w.heap.size oP W ∧ Tb w1.heap.size p W ∧ Li W) HX.out ?_
    rintro v2 ⟨BV, hO, hP, LV⟩
    obtain ⟨n1, hn1⟩ : ∃ n, w1.heap.size = n := ⟨_, rfl⟩
    rw [hn1] at hP ⊢
    clear HX hn1 w1
    refine (C2 _ LV).mono ?_
    rintro e w3 ⟨rfl, B3⟩
    have O3 := hO.below B3
    have P3 := hP.below B3
    have BW3 := jaa BV BV.size B3
    clear BV hO hP LV B3
    have ⟨oz, oa, ob, oc, of⟩ := O3
    have ⟨pz, pa, pb, pc, pf⟩ := P3
    clear O3 P3
    go_wp2_with fail
    refine bodyPost_ret (v := errT) (by simp [oP, results, Tryz.results140, go_sem, *]) rfl ⟨rfl, ?_⟩
    exact jah (y := oP) BW3 (Nat.le_refl _)
 ·have eB : frB s = false := by unfold frB; rw [decide_eq_false h5, Bool.false_and, Bool.false_and]
  rw [eB, if_neg (by simp)]
  have h5' : ¬ (s.size : Int) = 5 := by omega
  have h5'' : ((s.size : Int) == 5) = false := by rw [beq_eq_false_iff_ne]; exact h5'
  go_enter Tryz.func140, Tryz.ntmps140
  go_wp2_with fail
  refine bodyPost_ret (v := errT) (by simp [oP, results, Tryz.results140, go_sem, *]) rfl ⟨rfl, by go_grown⟩
theorem nofalse {P : Prop} (h : false = true) : P := by cases h
theorem gr_inf : grN iN = true := by
 have : grN iN = (onN iN && decide (tmN iN 536870717 = iN)) := rfl
 rw [this, tm_inf, decide_eq_true rfl]
 rfl
theorem btN_tx (f x j : Nat) (hf : f < 256) (hj : j < 5) : (btN (txF f x) j : Int) = bvF f x j := by
 rw [← bt_N]
 exact bt_by8 5 _ (bv_bd f x hf) j hj
theorem tx_first (f x : Nat) (hf : f < 256) : btN (txF f x) 0 = f := by
 have := btN_tx f x 0 hf (by omega)
 unfold bvF at this
 rw [if_pos rfl] at this
 omega
theorem tx_back (s : ByteArray) (h5 : s.size = 5) : txF (btN s 0) (nmX s) = s := by
 refine ext_bt _ _ (by rw [tx_size, h5]) fun j hj => ?_
 rw [tx_size] at hj
 have q0 := jbr s 0
 have q1 := jbr s 1
 have q2 := jbr s 2
 have q3 := jbr s 3
 have q4 := jbr s 4
 have e := btN_tx (btN s 0) (nmX s) j q0 hj
 rw [← bt_N] at e
 rw [e, bt_N]
 unfold bvF nmX fourN
 match j, hj with
 | 0, _ => rw [if_pos rfl]
 | 1, _ => rw [if_neg (by omega)]; show ((_ / 16777216 % 256 : Nat) : Int) = _; omega
 | 2, _ => rw [if_neg (by omega)]; show ((_ / 65536 % 256 : Nat) : Int) = _; omega
 | 3, _ => rw [if_neg (by omega)]; show ((_ / 256 % 256 : Nat) : Int) = _; omega
 | 4, _ => rw [if_neg (by omega)]; show ((_ / 1 % 256 : Nat) : Int) = _; omega
def zero5 : ByteArray := txF 0 0
theorem fs_inf : fsN iN = 0 := rfl
theorem fr_zero : frV zero5 = okT iN := by
 have e0 : btN zero5 0 = 0 := tx_first 0 0 (by omega)
 have en : nmN zero5 = iN := by unfold nmN; rw [if_pos e0]
 have hb : frB zero5 = true := by
  have h5 : zero5.size = 5 := tx_size 0 0
  have hz : txF 0 iN.X = zero5 := rfl
  unfold frB
  rw [en, gr_inf, decide_eq_true h5, fs_inf, decide_eq_true hz]
  rfl
 unfold frV
 rw [hb, if_pos rfl, en]
theorem fr_short (s : ByteArray) (h : s.size ≠ 5) : frV s = errT := by
 unfold frV frB
 rw [decide_eq_false h]
 rfl
theorem fr_first (s : ByteArray) (hz : s ≠ zero5) (h2 : btN s 0 ≠ 2) (h3 : btN s 0 ≠ 3) : frV s = errT := by
 have hb : frB s = false := by
  unfold frB
  by_cases h0 : btN s 0 = 0
  ·have en : nmN s = iN := by unfold nmN; rw [if_pos h0]
   rw [en, fs_inf, decide_eq_false (p := txF 0 iN.X = s) (fun e => hz e.symm), Bool.and_false]
  ·have en : nmN s = ⟨nmX s, roN (sqN (nmX s)), false⟩ := by unfold nmN; rw [if_neg h0, if_neg h3]
   rw [en]
   have : ¬ txF (fsN ⟨nmX s, roN (sqN (nmX s)), false⟩) (nmX s) = s := fun e => by
    have hf := fs_lt ⟨nmX s, roN (sqN (nmX s)), false⟩
    have e1 := tx_first (fsN ⟨nmX s, roN (sqN (nmX s)), false⟩) (nmX s) hf
    rw [e] at e1
    have hn : ¬ (⟨nmX s, roN (sqN (nmX s)), false⟩ : Pt) = iN := fun e => nofalse (congrArg Pt.I e)
    unfold fsN at e1
    rw [if_neg hn] at e1
    split at e1
    ·exact h2 e1
    ·exact h3 e1
   rw [decide_eq_false this, Bool.and_false]
 unfold frV
 rw [hb]
 rfl
theorem gr_bad (x y : Nat) (h : PM ≤ x) : grN ⟨x, y, false⟩ = false := by
 have : onN ⟨x, y, false⟩ = false := by
  unfold onN
  rw [if_neg (by simp), decide_eq_false (by show ¬ x < PM; omega), Bool.false_and, Bool.false_and]
 unfold grN
 rw [this, Bool.false_and]
theorem fr_great (s : ByteArray) (h0 : btN s 0 = 2 ∨ btN s 0 = 3) (hx : PM ≤ nmX s) : frV s = errT := by
 have hb : frB s = false := by
  unfold frB
  have : grN (nmN s) = false := by
   unfold nmN
   rw [if_neg (by omega)]
   split
   ·exact gr_bad _ _ hx
   ·exact gr_bad _ _ hx
  rw [this, Bool.and_false, Bool.false_and]
 unfold frV
 rw [hb]
 rfl
def rfY (s : ByteArray) : Nat := if btN s 0 = 3 then sbN 0 (roN (sqN (nmX s))) else roN (sqN (nmX s))
def rfO (s : ByteArray) : Bool := if btN s 0 = 3 then roB (sqN (nmX s)) && !decide (roN (sqN (nmX s)) = 0) else roB (sqN (nmX s))
theorem ro_zero : roB 0 = true := ro_sq 0
theorem no_root (x : Nat) (h : roB (sqN x) = false) : grN ⟨x, 0, false⟩ = false := by
 have : onN ⟨x, 0, false⟩ = false := by
  unfold onN
  rw [if_neg (by simp)]
  have : ¬ muN 0 0 = sqN x := fun e => by
   rw [← e] at h
   exact absurd (h.symm.trans ro_zero) (by simp)
  rw [decide_eq_false this, Bool.and_false]
 unfold grN
 rw [this, Bool.false_and]
theorem odd_neg (r : Nat) (hl : r < PM) (he : r % 2 = 0) (hz : r ≠ 0) : sbN 0 r % 2 = 1 := by
 have h1 : PM - r < PM := by omega
 have e : sbN 0 r = PM - r := by
  unfold sbN
  rw [Nat.zero_mod, Nat.zero_add, Nat.mod_eq_of_lt hl, Nat.mod_eq_of_lt h1]
 rw [e]
 unfold PM at hl ⊢
 omega
theorem fs_even (x y : Nat) (h : y % 2 = 0) : fsN ⟨x, y, false⟩ = 2 := by
 have hn : ¬ (⟨x, y, false⟩ : Pt) = iN := fun e => nofalse (congrArg Pt.I e)
 unfold fsN
 rw [if_neg hn, if_pos h]
theorem fs_odd (x y : Nat) (h : y % 2 = 1) : fsN ⟨x, y, false⟩ = 3 := by
 have hn : ¬ (⟨x, y, false⟩ : Pt) = iN := fun e => nofalse (congrArg Pt.I e)
 unfold fsN
 rw [if_neg hn, if_neg (show ¬ y % 2 = 0 by omega)]
theorem nm_rf (s : ByteArray) (h0 : btN s 0 = 2 ∨ btN s 0 = 3) : nmN s = ⟨nmX s, rfY s, false⟩ := by
 unfold nmN rfY
 rw [if_neg (by omega)]
 by_cases h3 : btN s 0 = 3
 ·rw [if_pos h3, if_pos h3]
  exact Pt.ext' rfl rfl rfl
 ·rw [if_neg h3, if_neg h3]
theorem rf_none (s : ByteArray) (hr : roB (sqN (nmX s)) = false) : rfY s = 0 ∧ rfO s = false := by
 have r0 := ro_none _ hr
 unfold rfY rfO
 rw [r0, hr, show sbN 0 0 = 0 by decide]
 refine ⟨?_, ?_⟩
 ·split <;> rfl
 ·split <;> rfl
theorem fr_in (s : ByteArray) (h5 : s.size = 5) (y : Nat) (en : nmN s = ⟨nmX s, y, false⟩) : frB s = (grN ⟨nmX s, y, false⟩ && decide (txF (fsN ⟨nmX s, y, false⟩) (nmX s) = s)) := by
 unfold frB
 rw [en, decide_eq_true h5, Bool.true_and]
theorem fr_rest (s : ByteArray) (h5 : s.size = 5) (h0 : btN s 0 = 2 ∨ btN s 0 = 3) : frV s = if (rfO s && grN ⟨nmX s, rfY s, false⟩) = true then okT ⟨nmX s, rfY s, false⟩ else errT := by
 have en := nm_rf s h0
 have hb : frB s = (rfO s && grN ⟨nmX s, rfY s, false⟩) := by
  rw [fr_in s h5 _ en]
  have htx := tx_back s h5
  cases hr : roB (sqN (nmX s))
  ·obtain ⟨y0, o0⟩ := rf_none s hr
   rw [y0, o0, no_root _ hr, Bool.false_and, Bool.false_and]
  ·have he := (jeo _ hr).2
   have hl := ro_lt (sqN (nmX s))
   rcases h0 with h2 | h3
   ·have y0 : rfY s = roN (sqN (nmX s)) := by unfold rfY; rw [if_neg (by omega)]
    have o0 : rfO s = true := by unfold rfO; rw [if_neg (by omega)]; exact hr
    rw [o0, Bool.true_and, fs_even _ _ (by rw [y0]; exact he)]
    rw [h2] at htx
    rw [decide_eq_true htx, Bool.and_true]
   ·have y0 : rfY s = sbN 0 (roN (sqN (nmX s))) := by unfold rfY; rw [if_pos h3]
    have o0 : rfO s = !decide (roN (sqN (nmX s)) = 0) := by unfold rfO; rw [if_pos h3, hr, Bool.true_and]
    rw [h3] at htx
    by_cases z : roN (sqN (nmX s)) = 0
    ·have y1 : rfY s = 0 := by rw [y0, z]; decide
     have hd : ¬ txF 2 (nmX s) = s := fun e => by
      have e1 := tx_first 2 (nmX s) (by omega)
      rw [e, h3] at e1
      omega
     rw [o0, decide_eq_true z, Bool.not_true, Bool.false_and, fs_even _ _ (by rw [y1]), decide_eq_false hd, Bool.and_false]
    ·have y1 : rfY s % 2 = 1 := by rw [y0]; exact odd_neg _ hl he z
     rw [o0, decide_eq_false z, Bool.not_false, Bool.true_and, fs_odd _ _ y1, decide_eq_true htx, Bool.and_true]
 unfold frV
 rw [hb, en]
theorem jfs : zero5 = ⟨#[0, 0, 0, 0, 0]⟩ := by decide +kernel
theorem list0 : (⟨#[0, 0, 0, 0, 0]⟩ : ByteArray).toList = [0, 0, 0, 0, 0] := by decide +kernel
theorem rfrom_any (s : ByteArray) (w : World) :
  Calls Tryz.prog 32 #[.string s] w fun e w' => e = .returned (frV s) ∧ Below w.heap.size w w' := by
 by_cases hz : s = zero5
 ·rw [hz, fr_zero, jfs]
  clear hz s
  go_enter Tryz.func32, Tryz.ntmps32
  go_wp2_with fail
  refine jay (fun W => Below w.heap.size w W ∧ Tb w.heap.size oP W) ⟨by go_grown, Tb.new' w oP 72 _ rfl⟩ ?_
  rintro V ⟨BV, hO⟩
  refine (none_any _).mono ?_
  rintro e w1 ⟨rfl, B1⟩
  have BW := jaa BV BV.size B1
  have ⟨oz, oa, ob, oc, of⟩ := hO.below B1
  clear BV hO B1
  go_wp2_with fail
  refine bodyPost_ret (v := okT iN) (by simp [results, Tryz.results32, go_sem, *]) rfl ⟨rfl, ?_⟩
  exact jah (y := iN) BW (Nat.le_refl _)
 have hz' := ne_list hz
 rw [jfs, list0] at hz'
 by_cases h5 : s.size = 5
 ·have g0 := jbt s 0 (by omega)
  have g1 := jbt s 1 (by omega)
  have g2 := jbt s 2 (by omega)
  have g3 := jbt s 3 (by omega)
  have g4 := jbt s 4 (by omega)
  have q0 := jbr s 0
  have q1 := jbr s 1
  have q2 := jbr s 2
  have q3 := jbr s 3
  have q4 := jbr s 4
  rw [bt_N] at g0 g1 g2 g3 g4
  have R1' := fr_first s hz
  have R2' := fr_great s
  have R3' := fr_rest s h5
  obtain ⟨m1, m2, m3, n1, n2, F4⟩ := four_of _ _ _ _ q1 q2 q3 q4
  have hx4 := four_lt _ _ _ _ q1 q2 q3 q4
  have eX : nmX s = fourN (btN s 1) (btN s 2) (btN s 3) (btN s 4) := rfl
  rw [← eX] at F4 hx4
  have eY : rfY s = if btN s 0 = 3 then sbN 0 (roN (sqN (nmX s))) else roN (sqN (nmX s)) := rfl
  have eO : rfO s = if btN s 0 = 3 then roB (sqN (nmX s)) && !decide (roN (sqN (nmX s)) = 0) else roB (sqN (nmX s)) := rfl
  rw [eY, eO] at R3'
  clear eX eY eO
  obtain ⟨x, ex⟩ : ∃ x, nmX s = x := ⟨_, rfl⟩
  rw [ex] at F4 hx4 R2' R3'
  obtain ⟨y0, e0⟩ : ∃ y, btN s 0 = y := ⟨_, rfl⟩
  obtain ⟨y1, e1⟩ : ∃ y, btN s 1 = y := ⟨_, rfl⟩
  obtain ⟨y2, e2⟩ : ∃ y, btN s 2 = y := ⟨_, rfl⟩
  obtain ⟨y3, e3⟩ : ∃ y, btN s 3 = y := ⟨_, rfl⟩
  obtain ⟨y4, e4⟩ : ∃ y, btN s 4 = y := ⟨_, rfl⟩
  rw [e1, e2, e3, e4] at F4
  rw [e0] at g0 q0 R1' R2' R3'
  rw [e1] at g1 q1
  rw [e2] at g2 q2
  rw [e3] at g3 q3
  rw [e4] at g4 q4
  clear ex e0 e1 e2 e3 e4
  obtain ⟨s1, s2, s3, o1, o2, o3⟩ := F4
  have t1 : IntKind.u64.wrap (y1 : Int) = (y1 : Int) := by rw [IntKind.wrap_u64]; omega
  have t2 : IntKind.u64.wrap (y2 : Int) = (y2 : Int) := by rw [IntKind.wrap_u64]; omega
  have t3 : IntKind.u64.wrap (y3 : Int) = (y3 : Int) := by rw [IntKind.wrap_u64]; omega
  have t4 : IntKind.u64.wrap (y4 : Int) = (y4 : Int) := by rw [IntKind.wrap_u64]; omega
  have h5' : (s.size : Int) = 5 := by omega
  obtain ⟨fv, hfv⟩ : ∃ v, frV s = v := ⟨_, rfl⟩
  rw [hfv] at R1' R2' R3' ⊢
  clear hfv
  by_cases h23 : y0 = 2 ∨ y0 = 3
  ·rcases h23 with h23 | h23
   ·-- the first byte is 2
    have hd : y0 = 2 := h23
    subst hd
    by_cases hge : 2147482867 ≤ x
    ·have hge' : (2147482867 : Int) ≤ x := by omega
     rw [R2' (by omega) hge]
     clear R1' R2' R3'
     go_enter Tryz.func32, Tryz.ntmps32
     go_wp2_with fail
     refine wpOf (fun V => Below w.heap.size w V ∧ Tb w.heap.size oP V) ⟨by go_grown, Tb.new' w oP 72 _ rfl⟩ ?_
     rintro V ⟨BV, hO⟩
     have HV : Hid (_ ∧ _) := ⟨BV, hO⟩
     clear BV hO
     refine wp_region_quiet_below (by kernel_rfl) (by kernel_rfl) ?_
     iterate 19 (quiet_step (fail))
     refine wpQuiet_nil ?_
     intro w8 hw8
     have B8 : Below V.heap.size V w8 := by
      obtain ⟨p, rfl⟩ := hw8
      exact below_regrown _ _ _
     obtain ⟨BV, hO⟩ := HV.out
     have BW := jaa BV BV.size B8
     have O8 := hO.below B8
     clear hw8 B8 BV hO HV s1 s2 s3 o1 o2 o3 t1 t2 t3 t4 g1 g2 g3 g4
     obtain ⟨oz, oa, ob, oc, of⟩ := O8
     go_wp2_with fail
     refine bodyPost_ret (v := errT) (by simp [oP, results, Tryz.results32, go_sem, *]) rfl ⟨rfl, ?_⟩
     exact jah (y := oP) BW (Nat.le_refl _)
    have hge' : decide ((2147482867 : Int) ≤ x) = false := decide_eq_false (by omega)
    have C1 := side_any x (by unfold U64; omega)
    have hq := sq_lt x
    have R4' := R3' (by omega)
    clear R1' R2' R3'
    rw [if_neg (show ¬ (2 : Nat) = 3 by omega), if_neg (show ¬ (2 : Nat) = 3 by omega)] at R4'
    obtain ⟨q, eq⟩ : ∃ q, sqN x = q := ⟨_, rfl⟩
    rw [eq] at C1 hq R4'
    have C2 := rroot_any q (pm_u _ hq)
    have hr := ro_lt q
    obtain ⟨r, er⟩ : ∃ r, roN q = r := ⟨_, rfl⟩
    obtain ⟨rb, erb⟩ : ∃ b, roB q = b := ⟨_, rfl⟩
    rw [er, erb] at C2 R4'
    rw [er] at hr
    clear eq er erb
    have hy := hr
    obtain ⟨y, ey⟩ : ∃ y, r = y := ⟨_, rfl⟩
    rw [ey] at C2 R4' hy
    clear ey hr r
    have C3 := jhc ⟨x, y, false⟩ ⟨by show x < _; omega, pm_u _ hy⟩
    obtain ⟨gr, egr⟩ : ∃ b, grN ⟨x, y, false⟩ = b := ⟨_, rfl⟩
    rw [egr] at C3 R4'
    clear egr
    rw [R4']
    clear R4' hge hq hy hx4 q0 q1 q2 q3 q4 hz
    cases rb with
    | false =>
     rw [Bool.false_and, if_neg (by simp)]
     go_enter Tryz.func32, Tryz.ntmps32
     go_wp2_with fail
     refine wpOf (fun V => Below w.heap.size w V ∧ Tb w.heap.size oP V) ⟨by go_grown, Tb.new' w oP 72 _ rfl⟩ ?_
     rintro V ⟨BV, hO⟩
     have HV : Hid (_ ∧ _) := ⟨BV, hO⟩
     clear BV hO
     refine wp_region_quiet_below (by kernel_rfl) (by kernel_rfl) ?_
     iterate 19 (quiet_step (fail))
     refine wpQuiet_nil ?_
     intro w8 hw8
     have B8 : Below V.heap.size V w8 := by
      obtain ⟨p, rfl⟩ := hw8
      exact below_regrown _ _ _
     obtain ⟨BV, hO⟩ := HV.out
     have BW := jaa BV BV.size B8
     have O8 := hO.below B8
     clear hw8 B8 BV hO HV s1 s2 s3 o1 o2 o3 t1 t2 t3 t4 g1 g2 g3 g4
     go_wp2_with fail
     refine (C1 _).mono ?_
     rintro e w9 ⟨rfl, B9⟩
     have BW9 := jaa BW BW.size B9
     have O9 := O8.below B9
     clear BW O8 B9
     go_wp2_with fail
     refine (C2 _).mono ?_
     rintro e w10 ⟨rfl, B10⟩
     have BW10 := jaa BW9 BW9.size B10
     have O10 := O9.below B10
     clear BW9 O9 B10
     have ⟨oz, oa, ob, oc, of⟩ := O10
     have HX : Hid (_ ∧ _ ∧ _) := ⟨BW10.alloc BW10.size (bxQ ⟨x, y, false⟩), O10.alloc (bxQ ⟨x, y, false⟩), Tb.new' w10 ⟨x, y, false⟩ 72 _ rfl⟩
     have HB : Hid _ := BW10
     clear BW10
     go_wp2_with fail
     refine bodyPost_ret (v := errT) (by simp [oP, results, Tryz.results32, go_sem, *]) rfl ⟨rfl, ?_⟩
     have hbb := jah (y := oP) HB.out (Nat.le_refl _)
     exact hbb.alloc hbb.size _
    | true =>
     cases gr with
     | false =>
      rw [Bool.and_false, if_neg (by simp)]
      go_enter Tryz.func32, Tryz.ntmps32
      go_wp2_with fail
      refine wpOf (fun V => Below w.heap.size w V ∧ Tb w.heap.size oP V) ⟨by go_grown, Tb.new' w oP 72 _ rfl⟩ ?_
      rintro V ⟨BV, hO⟩
      have HV : Hid (_ ∧ _) := ⟨BV, hO⟩
      clear BV hO
      refine wp_region_quiet_below (by kernel_rfl) (by kernel_rfl) ?_
      iterate 19 (quiet_step (fail))
      refine wpQuiet_nil ?_
      intro w8 hw8
      have B8 : Below V.heap.size V w8 := by
       obtain ⟨p, rfl⟩ := hw8
       exact below_regrown _ _ _
      obtain ⟨BV, hO⟩ := HV.out
      have BW := jaa BV BV.size B8
      have O8 := hO.below B8
      clear hw8 B8 BV hO HV s1 s2 s3 o1 o2 o3 t1 t2 t3 t4 g1 g2 g3 g4
      go_wp2_with fail
      refine (C1 _).mono ?_
      rintro e w9 ⟨rfl, B9⟩
      have BW9 := jaa BW BW.size B9
      have O9 := O8.below B9
      clear BW O8 B9
      go_wp2_with fail
      refine (C2 _).mono ?_
      rintro e w10 ⟨rfl, B10⟩
      have BW10 := jaa BW9 BW9.size B10
      have O10 := O9.below B10
      clear BW9 O9 B10
      have ⟨oz, oa, ob, oc, of⟩ := O10
      have HX : Hid (_ ∧ _ ∧ _) := ⟨BW10.alloc BW10.size (bxQ ⟨x, y, false⟩), O10.alloc (bxQ ⟨x, y, false⟩), Tb.new' w10 ⟨x, y, false⟩ 72 _ rfl⟩
      have HB : Hid _ := BW10
      clear BW10
      go_wp2_with fail
      refine jay (fun W => Below w.heap.size w W ∧ Tb w.heap.size oP W ∧ Tb w10.heap.size ⟨x, y, false⟩ W) HX.out ?_
      rintro v1 ⟨BV, hO, hP⟩
      obtain ⟨k1, hk⟩ : ∃ n, w10.heap.size = n := ⟨_, rfl⟩
      rw [hk] at hP ⊢
      clear HX HB hk oz oa ob oc of O10 w10
      refine (C3 _).mono ?_
      rintro e w12 ⟨rfl, B12⟩
      have O12 := hO.below B12
      have P12 := hP.below B12
      have BW12 := jaa BV BV.size B12
      clear BV hO hP B12
      obtain ⟨oz, oa, ob, oc, of⟩ := O12
      obtain ⟨pz, pa, pb, pc, pf⟩ := P12
      go_wp2_with fail
      refine bodyPost_ret (v := errT) (by simp [oP, results, Tryz.results32, go_sem, *]) rfl ⟨rfl, ?_⟩
      exact jah (y := oP) BW12 (Nat.le_refl _)
     | true =>
      rw [Bool.and_self, if_pos rfl]
      go_enter Tryz.func32, Tryz.ntmps32
      go_wp2_with fail
      refine wpOf (fun V => Below w.heap.size w V ∧ Tb w.heap.size oP V) ⟨by go_grown, Tb.new' w oP 72 _ rfl⟩ ?_
      rintro V ⟨BV, hO⟩
      have HV : Hid (_ ∧ _) := ⟨BV, hO⟩
      clear BV hO
      refine wp_region_quiet_below (by kernel_rfl) (by kernel_rfl) ?_
      iterate 19 (quiet_step (fail))
      refine wpQuiet_nil ?_
      intro w8 hw8
      have B8 : Below V.heap.size V w8 := by
       obtain ⟨p, rfl⟩ := hw8
       exact below_regrown _ _ _
      obtain ⟨BV, hO⟩ := HV.out
      have BW := jaa BV BV.size B8
      have O8 := hO.below B8
      clear hw8 B8 BV hO HV s1 s2 s3 o1 o2 o3 t1 t2 t3 t4 g1 g2 g3 g4
      go_wp2_with fail
      refine (C1 _).mono ?_
      rintro e w9 ⟨rfl, B9⟩
      have BW9 := jaa BW BW.size B9
      have O9 := O8.below B9
      clear BW O8 B9
      go_wp2_with fail
      refine (C2 _).mono ?_
      rintro e w10 ⟨rfl, B10⟩
      have BW10 := jaa BW9 BW9.size B10
      have O10 := O9.below B10
      clear BW9 O9 B10
      have ⟨oz, oa, ob, oc, of⟩ := O10
      have HX : Hid (_ ∧ _ ∧ _) := ⟨BW10.alloc BW10.size (bxQ ⟨x, y, false⟩), O10.alloc (bxQ ⟨x, y, false⟩), Tb.new' w10 ⟨x, y, false⟩ 72 _ rfl⟩
      have HB : Hid _ := BW10
      clear BW10
      go_wp2_with fail
      refine jay (fun W => Below w.heap.size w W ∧ Tb w.heap.size oP W ∧ Tb w10.heap.size ⟨x, y, false⟩ W) HX.out ?_
      rintro v1 ⟨BV, hO, hP⟩
      obtain ⟨k1, hk⟩ : ∃ n, w10.heap.size = n := ⟨_, rfl⟩
      rw [hk] at hP ⊢
      clear HX HB hk oz oa ob oc of O10 w10
      refine (C3 _).mono ?_
      rintro e w12 ⟨rfl, B12⟩
      have O12 := hO.below B12
      have P12 := hP.below B12
      have BW12 := jaa BV BV.size B12
      clear BV hO hP B12
      obtain ⟨oz, oa, ob, oc, of⟩ := O12
      obtain ⟨pz, pa, pb, pc, pf⟩ := P12
      go_wp2_with fail
      refine bodyPost_ret (v := okT ⟨x, y, false⟩) (by simp [results, Tryz.results32, go_sem, *]) rfl ⟨rfl, ?_⟩
      exact jah (y := ⟨x, y, false⟩) BW12 (Nat.le_refl _)
   ·-- the first byte is 3
    have hd : y0 = 3 := h23
    subst hd
    by_cases hge : 2147482867 ≤ x
    ·have hge' : (2147482867 : Int) ≤ x := by omega
     rw [R2' (by omega) hge]
     clear R1' R2' R3'
     go_enter Tryz.func32, Tryz.ntmps32
     go_wp2_with fail
     refine wpOf (fun V => Below w.heap.size w V ∧ Tb w.heap.size oP V) ⟨by go_grown, Tb.new' w oP 72 _ rfl⟩ ?_
     rintro V ⟨BV, hO⟩
     have HV : Hid (_ ∧ _) := ⟨BV, hO⟩
     clear BV hO
     refine wp_region_quiet_below (by kernel_rfl) (by kernel_rfl) ?_
     iterate 19 (quiet_step (fail))
     refine wpQuiet_nil ?_
     intro w8 hw8
     have B8 : Below V.heap.size V w8 := by
      obtain ⟨p, rfl⟩ := hw8
      exact below_regrown _ _ _
     obtain ⟨BV, hO⟩ := HV.out
     have BW := jaa BV BV.size B8
     have O8 := hO.below B8
     clear hw8 B8 BV hO HV s1 s2 s3 o1 o2 o3 t1 t2 t3 t4 g1 g2 g3 g4
     obtain ⟨oz, oa, ob, oc, of⟩ := O8
     go_wp2_with fail
     refine bodyPost_ret (v := errT) (by simp [oP, results, Tryz.results32, go_sem, *]) rfl ⟨rfl, ?_⟩
     exact jah (y := oP) BW (Nat.le_refl _)
    have hge' : decide ((2147482867 : Int) ≤ x) = false := decide_eq_false (by omega)
    have C1 := side_any x (by unfold U64; omega)
    have hq := sq_lt x
    have R4' := R3' (by omega)
    clear R1' R2' R3'
    rw [if_pos rfl, if_pos rfl] at R4'
    obtain ⟨q, eq⟩ : ∃ q, sqN x = q := ⟨_, rfl⟩
    rw [eq] at C1 hq R4'
    have C2 := rroot_any q (pm_u _ hq)
    have hr := ro_lt q
    obtain ⟨r, er⟩ : ∃ r, roN q = r := ⟨_, rfl⟩
    obtain ⟨rb, erb⟩ : ∃ b, roB q = b := ⟨_, rfl⟩
    rw [er, erb] at C2 R4'
    rw [er] at hr
    clear eq er erb
    have C4 := jcy 0 r (by unfold U64; omega) (pm_u _ hr)
    have hy := jde 0 r
    obtain ⟨y, ey⟩ : ∃ y, sbN 0 r = y := ⟨_, rfl⟩
    rw [ey] at C4 R4' hy
    clear ey
    have ez : ((r : Int) != 0) = !decide (r = 0) := by
     by_cases e : r = 0
     ·subst e; rfl
     ·rw [decide_eq_false e, Bool.not_false, bne_iff_ne]; omega
    obtain ⟨rz, erz⟩ : ∃ b, (!decide (r = 0)) = b := ⟨_, rfl⟩
    rw [erz] at ez R4'
    have HE : Hid (((r : Int) != 0) = rz) := ez
    clear erz ez hr
    have C3 := jhc ⟨x, y, false⟩ ⟨by show x < _; omega, pm_u _ hy⟩
    obtain ⟨gr, egr⟩ : ∃ b, grN ⟨x, y, false⟩ = b := ⟨_, rfl⟩
    rw [egr] at C3 R4'
    clear egr
    rw [R4']
    clear R4' hge hq hy hx4 q0 q1 q2 q3 q4 hz
    cases rb with
    | false =>
     rw [Bool.false_and, Bool.false_and, if_neg (by simp)]
     go_enter Tryz.func32, Tryz.ntmps32
     go_wp2_with fail
     refine wpOf (fun V => Below w.heap.size w V ∧ Tb w.heap.size oP V) ⟨by go_grown, Tb.new' w oP 72 _ rfl⟩ ?_
     rintro V ⟨BV, hO⟩
     have HV : Hid (_ ∧ _) := ⟨BV, hO⟩
     clear BV hO
     refine wp_region_quiet_below (by kernel_rfl) (by kernel_rfl) ?_
     iterate 19 (quiet_step (fail))
     refine wpQuiet_nil ?_
     intro w8 hw8
     have B8 : Below V.heap.size V w8 := by
      obtain ⟨p, rfl⟩ := hw8
      exact below_regrown _ _ _
     obtain ⟨BV, hO⟩ := HV.out
     have BW := jaa BV BV.size B8
     have O8 := hO.below B8
     clear hw8 B8 BV hO HV s1 s2 s3 o1 o2 o3 t1 t2 t3 t4 g1 g2 g3 g4
     go_wp2_with fail
     refine (C1 _).mono ?_
     rintro e w9 ⟨rfl, B9⟩
     have BW9 := jaa BW BW.size B9
     have O9 := O8.below B9
     clear BW O8 B9
     go_wp2_with fail
     refine (C2 _).mono ?_
     rintro e w10 ⟨rfl, B10⟩
     have BW10 := jaa BW9 BW9.size B10
     have O10 := O9.below B10
     clear BW9 O9 B10
     have ⟨oz, oa, ob, oc, of⟩ := O10
     have ez := HE.out
     go_wp2_with fail
     clear oz oa ob oc of
     refine (C4 _).mono ?_
     rintro e w11 ⟨rfl, B11⟩
     have BW11 := jaa BW10 BW10.size B11
     have O11 := O10.below B11
     clear BW10 O10 B11
     have BW10 := BW11
     have O10 := O11
     clear BW11 O11
     have ⟨oz, oa, ob, oc, of⟩ := O10
     have HX : Hid (_ ∧ _ ∧ _) := ⟨BW10.alloc BW10.size (bxQ ⟨x, y, false⟩), O10.alloc (bxQ ⟨x, y, false⟩), Tb.new' w11 ⟨x, y, false⟩ 72 _ rfl⟩
     have HB : Hid _ := BW10
     clear BW10
     go_wp2_with fail
     refine bodyPost_ret (v := errT) (by simp [oP, results, Tryz.results32, go_sem, *]) rfl ⟨rfl, ?_⟩
     have hbb := jah (y := oP) HB.out (Nat.le_refl _)
     exact hbb.alloc hbb.size _
    | true =>
     cases rz with
     | false =>
      rw [Bool.and_false, Bool.false_and, if_neg (by simp)]
      go_enter Tryz.func32, Tryz.ntmps32
      go_wp2_with fail
      refine wpOf (fun V => Below w.heap.size w V ∧ Tb w.heap.size oP V) ⟨by go_grown, Tb.new' w oP 72 _ rfl⟩ ?_
      rintro V ⟨BV, hO⟩
      have HV : Hid (_ ∧ _) := ⟨BV, hO⟩
      clear BV hO
      refine wp_region_quiet_below (by kernel_rfl) (by kernel_rfl) ?_
      iterate 19 (quiet_step (fail))
      refine wpQuiet_nil ?_
      intro w8 hw8
      have B8 : Below V.heap.size V w8 := by
       obtain ⟨p, rfl⟩ := hw8
       exact below_regrown _ _ _
      obtain ⟨BV, hO⟩ := HV.out
      have BW := jaa BV BV.size B8
      have O8 := hO.below B8
      clear hw8 B8 BV hO HV s1 s2 s3 o1 o2 o3 t1 t2 t3 t4 g1 g2 g3 g4
      go_wp2_with fail
      refine (C1 _).mono ?_
      rintro e w9 ⟨rfl, B9⟩
      have BW9 := jaa BW BW.size B9
      have O9 := O8.below B9
      clear BW O8 B9
      go_wp2_with fail
      refine (C2 _).mono ?_
      rintro e w10 ⟨rfl, B10⟩
      have BW10 := jaa BW9 BW9.size B10
      have O10 := O9.below B10
      clear BW9 O9 B10
      have ⟨oz, oa, ob, oc, of⟩ := O10
      have ez := HE.out
      go_wp2_with fail
      clear oz oa ob oc of
      refine (C4 _).mono ?_
      rintro e w11 ⟨rfl, B11⟩
      have BW11 := jaa BW10 BW10.size B11
      have O11 := O10.below B11
      clear BW10 O10 B11
      have BW10 := BW11
      have O10 := O11
      clear BW11 O11
      have ⟨oz, oa, ob, oc, of⟩ := O10
      have HX : Hid (_ ∧ _ ∧ _) := ⟨BW10.alloc BW10.size (bxQ ⟨x, y, false⟩), O10.alloc (bxQ ⟨x, y, false⟩), Tb.new' w11 ⟨x, y, false⟩ 72 _ rfl⟩
      have HB : Hid _ := BW10
      clear BW10
      go_wp2_with fail
      refine bodyPost_ret (v := errT) (by simp [oP, results, Tryz.results32, go_sem, *]) rfl ⟨rfl, ?_⟩
      have hbb := jah (y := oP) HB.out (Nat.le_refl _)
      exact hbb.alloc hbb.size _
     | true =>
      cases gr with
      | false =>
       rw [Bool.and_false, if_neg (by simp)]
       go_enter Tryz.func32, Tryz.ntmps32
       go_wp2_with fail
       refine wpOf (fun V => Below w.heap.size w V ∧ Tb w.heap.size oP V) ⟨by go_grown, Tb.new' w oP 72 _ rfl⟩ ?_
       rintro V ⟨BV, hO⟩
       have HV : Hid (_ ∧ _) := ⟨BV, hO⟩
       clear BV hO
       refine wp_region_quiet_below (by kernel_rfl) (by kernel_rfl) ?_
       iterate 19 (quiet_step (fail))
       refine wpQuiet_nil ?_
       intro w8 hw8
       have B8 : Below V.heap.size V w8 := by
        obtain ⟨p, rfl⟩ := hw8
        exact below_regrown _ _ _
       obtain ⟨BV, hO⟩ := HV.out
       have BW := jaa BV BV.size B8
       have O8 := hO.below B8
       clear hw8 B8 BV hO HV s1 s2 s3 o1 o2 o3 t1 t2 t3 t4 g1 g2 g3 g4
       go_wp2_with fail
       refine (C1 _).mono ?_
       rintro e w9 ⟨rfl, B9⟩
       have BW9 := jaa BW BW.size B9
       have O9 := O8.below B9
       clear BW O8 B9
       go_wp2_with fail
       refine (C2 _).mono ?_
       rintro e w10 ⟨rfl, B10⟩
       have BW10 := jaa BW9 BW9.size B10
       have O10 := O9.below B10
       clear BW9 O9 B10
       have ⟨oz, oa, ob, oc, of⟩ := O10
       have ez := HE.out
       go_wp2_with fail
       clear oz oa ob oc of
       refine (C4 _).mono ?_
       rintro e w11 ⟨rfl, B11⟩
       have BW11 := jaa BW10 BW10.size B11
       have O11 := O10.below B11
       clear BW10 O10 B11
       have BW10 := BW11
       have O10 := O11
       clear BW11 O11
       have ⟨oz, oa, ob, oc, of⟩ := O10
       have HX : Hid (_ ∧ _ ∧ _) := ⟨BW10.alloc BW10.size (bxQ ⟨x, y, false⟩), O10.alloc (bxQ ⟨x, y, false⟩), Tb.new' w11 ⟨x, y, false⟩ 72 _ rfl⟩
       have HB : Hid _ := BW10
       clear BW10
       go_wp2_with fail
       refine jay (fun W => Below w.heap.size w W ∧ Tb w.heap.size oP W ∧ Tb w11.heap.size ⟨x, y, false⟩ W) HX.out ?_
       rintro v1 ⟨BV, hO, hP⟩
       obtain ⟨k1, hk⟩ : ∃ n, w11.heap.size = n := ⟨_, rfl⟩
       rw [hk] at hP ⊢
       clear HX HB hk oz oa ob oc of O10 w11
       refine (C3 _).mono ?_
       rintro e w12 ⟨rfl, B12⟩
       have O12 := hO.below B12
       have P12 := hP.below B12
       have BW12 := jaa BV BV.size B12
       clear BV hO hP B12
       obtain ⟨oz, oa, ob, oc, of⟩ := O12
       obtain ⟨pz, pa, pb, pc, pf⟩ := P12
       go_wp2_with fail
       refine bodyPost_ret (v := errT) (by simp [oP, results, Tryz.results32, go_sem, *]) rfl ⟨rfl, ?_⟩
       exact jah (y := oP) BW12 (Nat.le_refl _)
      | true =>
       rw [Bool.and_self, Bool.and_self, if_pos rfl]
       go_enter Tryz.func32, Tryz.ntmps32
       go_wp2_with fail
       refine wpOf (fun V => Below w.heap.size w V ∧ Tb w.heap.size oP V) ⟨by go_grown, Tb.new' w oP 72 _ rfl⟩ ?_
       rintro V ⟨BV, hO⟩
       have HV : Hid (_ ∧ _) := ⟨BV, hO⟩
       clear BV hO
       refine wp_region_quiet_below (by kernel_rfl) (by kernel_rfl) ?_
       iterate 19 (quiet_step (fail))
       refine wpQuiet_nil ?_
       intro w8 hw8
       have B8 : Below V.heap.size V w8 := by
        obtain ⟨p, rfl⟩ := hw8
        exact below_regrown _ _ _
       obtain ⟨BV, hO⟩ := HV.out
       have BW := jaa BV BV.size B8
       have O8 := hO.below B8
       clear hw8 B8 BV hO HV s1 s2 s3 o1 o2 o3 t1 t2 t3 t4 g1 g2 g3 g4
       go_wp2_with fail
       refine (C1 _).mono ?_
       rintro e w9 ⟨rfl, B9⟩
       have BW9 := jaa BW BW.size B9
       have O9 := O8.below B9
       clear BW O8 B9
       go_wp2_with fail
       refine (C2 _).mono ?_
       rintro e w10 ⟨rfl, B10⟩
       have BW10 := jaa BW9 BW9.size B10
       have O10 := O9.below B10
       clear BW9 O9 B10
       have ⟨oz, oa, ob, oc, of⟩ := O10
       have ez := HE.out
       go_wp2_with fail
       clear oz oa ob oc of
       refine (C4 _).mono ?_
       rintro e w11 ⟨rfl, B11⟩
       have BW11 := jaa BW10 BW10.size B11
       have O11 := O10.below B11
       clear BW10 O10 B11
       have BW10 := BW11
       have O10 := O11
       clear BW11 O11
       have ⟨oz, oa, ob, oc, of⟩ := O10
       have HX : Hid (_ ∧ _ ∧ _) := ⟨BW10.alloc BW10.size (bxQ ⟨x, y, false⟩), O10.alloc (bxQ ⟨x, y, false⟩), Tb.new' w11 ⟨x, y, false⟩ 72 _ rfl⟩
       have HB : Hid _ := BW10
       clear BW10
       go_wp2_with fail
       refine jay (fun W => Below w.heap.size w W ∧ Tb w.heap.size oP W ∧ Tb w11.heap.size ⟨x, y, false⟩ W) HX.out ?_
       rintro v1 ⟨BV, hO, hP⟩
       obtain ⟨k1, hk⟩ : ∃ n, w11.heap.size = n := ⟨_, rfl⟩
       rw [hk] at hP ⊢
       clear HX HB hk oz oa ob oc of O10 w11
       refine (C3 _).mono ?_
       rintro e w12 ⟨rfl, B12⟩
       have O12 := hO.below B12
       have P12 := hP.below B12
       have BW12 := jaa BV BV.size B12
       clear BV hO hP B12
       obtain ⟨oz, oa, ob, oc, of⟩ := O12
       obtain ⟨pz, pa, pb, pc, pf⟩ := P12
       go_wp2_with fail
       refine bodyPost_ret (v := okT ⟨x, y, false⟩) (by simp [results, Tryz.results32, go_sem, *]) rfl ⟨rfl, ?_⟩
       exact jah (y := ⟨x, y, false⟩) BW12 (Nat.le_refl _)
  ·have h2 : ¬ y0 = 2 := by omega
   have h3 : ¬ y0 = 3 := by omega
   rw [R1' h2 h3]
   have h2' : ((y0 : Int) != 2) = true := by rw [bne_iff_ne]; omega
   have h3' : ((y0 : Int) != 3) = true := by rw [bne_iff_ne]; omega
   clear R1' R2' R3' s1 s2 s3 o1 o2 o3 t1 t2 t3 t4 g1 g2 g3 g4
   go_enter Tryz.func32, Tryz.ntmps32
   go_wp2_with fail
   refine bodyPost_ret (v := errT) (by simp [oP, results, Tryz.results32, go_sem, *]) rfl ⟨rfl, by go_grown⟩
 ·rw [fr_short s h5]
  have h5' : ((s.size : Int) == 5) = false := by rw [beq_eq_false_iff_ne]; omega
  have h5'' : ¬ (s.size : Int) = 5 := by omega
  go_enter Tryz.func32, Tryz.ntmps32
  go_wp2_with fail
  refine bodyPost_ret (v := errT) (by simp [oP, results, Tryz.results32, go_sem, *]) rfl ⟨rfl, by go_grown⟩
end Go.Proofs.YtoddangedbefgabGreatDoor
