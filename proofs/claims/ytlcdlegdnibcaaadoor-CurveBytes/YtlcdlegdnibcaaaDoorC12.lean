/- What the program's named does. No condition. -/
import Derived.Test.YtlcdlegdnibcaaaDoorC11
import Derived.Test.YtlcdlegdnibcaaaDoorTail3
namespace Go.Proofs.YtlcdlegdnibcaaaDoor
open Go.RowKit Go.Shelf Go.Sort

theorem ofInt_nat64 (x : Nat) (hx : x < 18446744073709551616) : (BitVec.ofInt 64 (x : Int)).toNat = x := by
  rw [BitVec.toNat_ofInt]
  omega
theorem or_nat64 (x y : Nat) (hx : x < 18446744073709551616) (hy : y < 18446744073709551616) : bits .or .u64 (x : Int) (y : Int) = ((x ||| y : Nat) : Int) := by
  have h : (x ||| y) < 2 ^ 64 := Nat.or_lt_two_pow hx hy
  have e : bits .or .u64 (x : Int) (y : Int) = IntKind.u64.wrap (((BitVec.ofInt 64 (x : Int)) ||| (BitVec.ofInt 64 (y : Int))).toNat : Int) := rfl
  rw [e, BitVec.toNat_or, ofInt_nat64 x hx, ofInt_nat64 y hy, IntKind.wrap_u64]
  omega
/-- A text's byte, as a number. -/
def btN (s : ByteArray) (i : Nat) : Nat := (s.data.getD i 0).toNat
theorem bt_N (s : ByteArray) (i : Nat) : bt s i = (btN s i : Int) := rfl
theorem btN_lt (s : ByteArray) (i : Nat) : btN s i < 256 := (s.data.getD i 0).toNat_lt
/-- A number out of four bytes. -/
def fourN (y1 y2 y3 y4 : Nat) : Nat := y1 * 16777216 + y2 * 65536 + y3 * 256 + y4
theorem four_lt (y1 y2 y3 y4 : Nat) (h1 : y1 < 256) (h2 : y2 < 256) (h3 : y3 < 256) (h4 : y4 < 256) : fourN y1 y2 y3 y4 < 4294967296 := by unfold fourN; omega
theorem shl_n (y k : Nat) (h : y * k < 18446744073709551616) : IntKind.u64.wrap ((y : Int) * (k : Int)) = ((y * k : Nat) : Int) := by
  rw [← Int.natCast_mul, IntKind.wrap_u64]
  omega
theorem or_1 (y1 y2 : Nat) (h1 : y1 < 256) (h2 : y2 < 256) : bits .or .u64 ((y1 * 16777216 : Nat) : Int) ((y2 * 65536 : Nat) : Int) = ((y1 * 16777216 + y2 * 65536 : Nat) : Int) := by
  rw [or_nat64 _ _ (by omega) (by omega)]
  have := Nat.two_pow_add_eq_or_of_lt (i := 24) (b := y2 * 65536) (by omega) y1
  rw [show 2 ^ 24 * y1 = y1 * 16777216 by omega] at this
  rw [this]
theorem or_2 (m y3 : Nat) (h1 : m < 65536) (h2 : y3 < 256) : bits .or .u64 ((m * 65536 : Nat) : Int) ((y3 * 256 : Nat) : Int) = ((m * 65536 + y3 * 256 : Nat) : Int) := by
  rw [or_nat64 _ _ (by omega) (by omega)]
  have := Nat.two_pow_add_eq_or_of_lt (i := 16) (b := y3 * 256) (by omega) m
  rw [show 2 ^ 16 * m = m * 65536 by omega] at this
  rw [this]
theorem or_3 (m y4 : Nat) (h1 : m < 16777216) (h2 : y4 < 256) : bits .or .u64 ((m * 256 : Nat) : Int) (y4 : Int) = ((m * 256 + y4 : Nat) : Int) := by
  rw [or_nat64 _ _ (by omega) (by omega)]
  have := Nat.two_pow_add_eq_or_of_lt (i := 8) (b := y4) (by omega) m
  rw [show 2 ^ 8 * m = m * 256 by omega] at this
  rw [this]
/-- What the four bytes' shifts and joins come to. -/
structure Four (y1 y2 y3 y4 m1 m2 m3 n1 n2 x : Nat) : Prop where
  s1 : IntKind.u64.wrap ((y1 : Int) * 16777216) = (m1 : Int)
  s2 : IntKind.u64.wrap ((y2 : Int) * 65536) = (m2 : Int)
  s3 : IntKind.u64.wrap ((y3 : Int) * 256) = (m3 : Int)
  o1 : bits .or .u64 (m1 : Int) (m2 : Int) = (n1 : Int)
  o2 : bits .or .u64 (n1 : Int) (m3 : Int) = (n2 : Int)
  o3 : bits .or .u64 (n2 : Int) (y4 : Int) = (x : Int)
theorem four_of (y1 y2 y3 y4 : Nat) (h1 : y1 < 256) (h2 : y2 < 256) (h3 : y3 < 256) (h4 : y4 < 256) : ∃ m1 m2 m3 n1 n2, Four y1 y2 y3 y4 m1 m2 m3 n1 n2 (fourN y1 y2 y3 y4) := by
  refine ⟨y1 * 16777216, y2 * 65536, y3 * 256, y1 * 16777216 + y2 * 65536, y1 * 16777216 + y2 * 65536 + y3 * 256, ?_, ?_, ?_, or_1 y1 y2 h1 h2, ?_, ?_⟩
  · exact shl_n y1 16777216 (by omega)
  · exact shl_n y2 65536 (by omega)
  · exact shl_n y3 256 (by omega)
  · have := or_2 (y1 * 256 + y2) y3 (by omega) h3
    rw [show (y1 * 256 + y2) * 65536 = y1 * 16777216 + y2 * 65536 by omega] at this
    exact this
  · have := or_3 (y1 * 65536 + y2 * 256 + y3) y4 (by omega) h4
    rw [show (y1 * 65536 + y2 * 256 + y3) * 256 = y1 * 16777216 + y2 * 65536 + y3 * 256 by omega] at this
    exact this
theorem Tb.setY {n : Nat} {p : Pt} {W : World} (h : Tb n p W) (r : Nat) : Tb n ⟨p.X, r, p.I⟩ (W.setCell ⟨n, 1, none⟩ (.int .u64 (r : Int))) := by
  obtain ⟨z, a, b, c, f⟩ := h
  exact ⟨by simp [go_sem, *], by simp [go_sem, *], by simp [go_sem, *], by simp [go_sem, *], by simp [go_sem, *]⟩
theorem Tb.otherC {n g : Nat} {p : Pt} {W : World} (h : Tb n p W) (hg : g ≠ n) (o : Nat) (u : Value) : Tb n p (W.setCell ⟨g, o, none⟩ u) := by
  obtain ⟨z, a, b, c, f⟩ := h
  have hg' : n ≠ g := fun e => hg e.symm
  exact ⟨by simp [go_sem, *], by simp [go_sem, *], by simp [go_sem, *], by simp [go_sem, *], by simp [go_sem, *]⟩
def nmX (s : ByteArray) : Nat := fourN (btN s 1) (btN s 2) (btN s 3) (btN s 4)
/-- The point that five bytes may be those of. -/
def nmN (s : ByteArray) : Pt := if btN s 0 = 0 then iN else if btN s 0 = 3 then ngN ⟨nmX s, roN (sqN (nmX s)), false⟩ else ⟨nmX s, roN (sqN (nmX s)), false⟩
/-- What holds while a statement runs. -/
structure NmD (V : World) (s : ByteArray) (y1 y2 y3 y4 m1 m2 m3 n1 n2 x : Nat) (S : Nat → Bool) (x3 x8 x9 x10 x11 x12 x13 x14 x15 x16 x17 x18 x19 x20 x21 x22 x23 x24 x25 x26 : Value) (W : World) : Prop where
  e : Below V.heap.size V W
  f0 : S 0 = true → x8 = .string s
  f1 : S 1 = true → x9 = .int .u8 (y1 : Int)
  f2 : S 2 = true → x10 = .int .u64 (y1 : Int)
  f3 : S 3 = true → x11 = .int .u64 (m1 : Int)
  f4 : S 4 = true → x12 = .string s
  f5 : S 5 = true → x13 = .int .u8 (y2 : Int)
  f6 : S 6 = true → x14 = .int .u64 (y2 : Int)
  f7 : S 7 = true → x15 = .int .u64 (m2 : Int)
  f8 : S 8 = true → x16 = .int .u64 (n1 : Int)
  f9 : S 9 = true → x17 = .string s
  f10 : S 10 = true → x18 = .int .u8 (y3 : Int)
  f11 : S 11 = true → x19 = .int .u64 (y3 : Int)
  f12 : S 12 = true → x20 = .int .u64 (m3 : Int)
  f13 : S 13 = true → x21 = .int .u64 (n2 : Int)
  f14 : S 14 = true → x22 = .string s
  f15 : S 15 = true → x23 = .int .u8 (y4 : Int)
  f16 : S 16 = true → x24 = .int .u64 (y4 : Int)
  f17 : S 17 = true → x25 = .int .u64 (x : Int)
  f18 : S 18 = true → x26 = .agg #[.int .u64 (x : Int), .int .u64 0, .bool false]
  f19 : S 19 = true → ∃ b, x3 = .pointer (some ⟨b, 0, none⟩) ∧ V.heap.size ≤ b ∧ Tb b oP W
theorem NmD.grow {V : World} {s : ByteArray} {y1 y2 y3 y4 m1 m2 m3 n1 n2 x : Nat} {S : Nat → Bool} {x3 x8 x9 x10 x11 x12 x13 x14 x15 x16 x17 x18 x19 x20 x21 x22 x23 x24 x25 x26 : Value} {W W' : World} (h : NmD V s y1 y2 y3 y4 m1 m2 m3 n1 n2 x S x3 x8 x9 x10 x11 x12 x13 x14 x15 x16 x17 x18 x19 x20 x21 x22 x23 x24 x25 x26 W) (hb : Below W.heap.size W W') : NmD V s y1 y2 y3 y4 m1 m2 m3 n1 n2 x S x3 x8 x9 x10 x11 x12 x13 x14 x15 x16 x17 x18 x19 x20 x21 x22 x23 x24 x25 x26 W' :=
  ⟨belowStep h.e h.e.size hb, h.f0, h.f1, h.f2, h.f3, h.f4, h.f5, h.f6, h.f7, h.f8, h.f9, h.f10, h.f11, h.f12, h.f13, h.f14, h.f15, h.f16, h.f17, h.f18, fun s => (let ⟨b, e, hz, t⟩ := (h.f19 s); ⟨b, e, hz, t.below hb⟩)⟩
set_option maxRecDepth 20000 in
set_option maxHeartbeats 4000000 in
theorem named_any (s : ByteArray) (hs : s.size = 5) (w : World) (hL : Li w) :
    Calls Tryd.prog 36 #[.string s] w fun e w' => e = .returned (vT (nmN s)) ∧ Below w.heap.size w w' := by
  have ⟨lz, la, lb, lc, lo⟩ := hL
  have g0 := bt_get s 0 (by omega)
  have g1 := bt_get s 1 (by omega)
  have g2 := bt_get s 2 (by omega)
  have g3 := bt_get s 3 (by omega)
  have g4 := bt_get s 4 (by omega)
  have q1 := btN_lt s 1
  have q2 := btN_lt s 2
  have q3 := btN_lt s 3
  have q4 := btN_lt s 4
  have q0 := btN_lt s 0
  rw [bt_N] at g0 g1 g2 g3 g4
  obtain ⟨m1, m2, m3, n1, n2, F4⟩ := four_of _ _ _ _ q1 q2 q3 q4
  have hx4 := four_lt _ _ _ _ q1 q2 q3 q4
  unfold nmN
  have eX : nmX s = fourN (btN s 1) (btN s 2) (btN s 3) (btN s 4) := rfl
  rw [← eX] at F4 hx4
  clear eX
  obtain ⟨x, ex⟩ : ∃ x, nmX s = x := ⟨_, rfl⟩
  rw [ex] at F4 hx4 ⊢
  obtain ⟨y0, e0⟩ : ∃ y, btN s 0 = y := ⟨_, rfl⟩
  obtain ⟨y1, e1⟩ : ∃ y, btN s 1 = y := ⟨_, rfl⟩
  obtain ⟨y2, e2⟩ : ∃ y, btN s 2 = y := ⟨_, rfl⟩
  obtain ⟨y3, e3⟩ : ∃ y, btN s 3 = y := ⟨_, rfl⟩
  obtain ⟨y4, e4⟩ : ∃ y, btN s 4 = y := ⟨_, rfl⟩
  rw [e1, e2, e3, e4] at F4
  rw [e0] at g0 q0 ⊢
  rw [e1] at g1 q1
  rw [e2] at g2 q2
  rw [e3] at g3 q3
  rw [e4] at g4 q4
  clear ex e0 e1 e2 e3 e4
  obtain ⟨s1, s2, s3, o1, o2, o3⟩ := F4
  have t1 : IntKind.u64.wrap (y1 : Int) = (y1 : Int) := by rw [IntKind.wrap_u64]; omega
  have t2 : IntKind.u64.wrap (y2 : Int) = (y2 : Int) := by rw [IntKind.wrap_u64]; omega
  have t3 : IntKind.u64.wrap (y3 : Int) = (y3 : Int) := by rw [IntKind.wrap_u64]; omega
  have t4 : IntKind.u64.wrap (y4 : Int) = (y4 : Int) := by rw [IntKind.wrap_u64]; omega
  by_cases h0 : y0 = 0
  · rw [if_pos h0]
    subst h0
    go_enter Tryd.func36, Tryd.ntmps36
    go_wp2_with fail
    refine bodyPost_ret (v := vT iN) (by simp [results, Tryd.results36, go_sem, iN, *]) rfl ⟨rfl, by go_grown⟩
  rw [if_neg h0]
  have h0' : ¬ (y0 : Int) = 0 := by omega
  have h0'' : ((y0 : Int) == 0) = false := by rw [beq_eq_false_iff_ne]; exact h0'
  have C1 := square_any x (by unfold U64; omega)
  have hq := sq_lt x
  obtain ⟨q, eq⟩ : ∃ q, sqN x = q := ⟨_, rfl⟩
  rw [eq] at C1 hq ⊢
  have C2 := root_any q (pm_u _ hq)
  have hr := ro_lt q
  obtain ⟨r, er⟩ : ∃ r, roN q = r := ⟨_, rfl⟩
  obtain ⟨rb, erb⟩ : ∃ b, roB q = b := ⟨_, rfl⟩
  rw [er, erb] at C2
  rw [er] at hr ⊢
  clear eq er erb
  have C3 := negative_any ⟨x, r, false⟩ ⟨by show x < _; omega, pm_u _ hr⟩
  obtain ⟨n, en⟩ : ∃ n, ngN ⟨x, r, false⟩ = n := ⟨_, rfl⟩
  rw [en] at C3 ⊢
  clear en
  obtain ⟨fv, hfv⟩ : ∃ v : Pt, (if y0 = 3 then n else ⟨x, r, false⟩) = v := ⟨_, rfl⟩
  rw [hfv]
  have HF : Hid ((if y0 = 3 then n else (⟨x, r, false⟩ : Pt)) = fv) := hfv
  clear hfv
  go_enter Tryd.func36, Tryd.ntmps36
  go_wp2_with fail
  refine wpOf (fun V => Below w.heap.size w V ∧ Tb w.heap.size oP V) ⟨by go_grown, Tb.new' w oP 24 _ rfl⟩ ?_
  rintro V ⟨BV, hO⟩
  have HV : Hid (_ ∧ _) := ⟨BV, hO⟩
  clear BV hO la lb lc lz lo hL
  refine region_inv_tail 20 (fun S aa W => ∃ x3 x8 x9 x10 x11 x12 x13 x14 x15 x16 x17 x18 x19 x20 x21 x22 x23 x24 x25 x26 : Value, aa = { tmps := #[.string s, undef, .pointer (some ⟨w.heap.size, 0, none⟩), x3, .string s, .int .u8 (y0 : Int), .bool false, undef, x8, x9, x10, x11, x12, x13, x14, x15, x16, x17, x18, x19, x20, x21, x22, x23, x24, x25, x26, undef, undef, undef, undef, undef, undef, undef, undef, undef, undef, undef, undef, undef, undef], defers := [] } ∧ NmD V s y1 y2 y3 y4 m1 m2 m3 n1 n2 x S x3 x8 x9 x10 x11 x12 x13 x14 x15 x16 x17 x18 x19 x20 x21 x22 x23 x24 x25 x26 W) (by kernel_rfl) (by kernel_rfl) ?_ ?_ ?_
  · exact ⟨undef, undef, undef, undef, undef, undef, undef, undef, undef, undef, undef, undef, undef, undef, undef, undef, undef, undef, undef, undef, rfl, ⟨(Below.refl _ V).drew, nofun, nofun, nofun, nofun, nofun, nofun, nofun, nofun, nofun, nofun, nofun, nofun, nofun, nofun, nofun, nofun, nofun, nofun, nofun, nofun⟩⟩
  · intro i o S aa W hin hi hun hJ hall K hK
    obtain ⟨x3, x8, x9, x10, x11, x12, x13, x14, x15, x16, x17, x18, x19, x20, x21, x22, x23, x24, x25, x26, rfl, h⟩ := hJ
    have hlt : i < 20 := hin
    have hcase : i = 0 ∨ i = 1 ∨ i = 2 ∨ i = 3 ∨ i = 4 ∨ i = 5 ∨ i = 6 ∨ i = 7 ∨ i = 8 ∨ i = 9 ∨ i = 10 ∨ i = 11 ∨ i = 12 ∨ i = 13 ∨ i = 14 ∨ i = 15 ∨ i = 16 ∨ i = 17 ∨ i = 18 ∨ i = 19 := by omega
    rcases hcase with rfl | rfl | rfl | rfl | rfl | rfl | rfl | rfl | rfl | rfl | rfl | rfl | rfl | rfl | rfl | rfl | rfl | rfl | rfl | rfl
    all_goals (have ho := (Option.some.inj hi).symm; subst ho; clear hi hlt hin)
    · go_simp
      exact hK _ _ ⟨x3, _, x9, x10, x11, x12, x13, x14, x15, x16, x17, x18, x19, x20, x21, x22, x23, x24, x25, x26, rfl, ⟨h.e, fun _ => rfl, h.f1, h.f2, h.f3, h.f4, h.f5, h.f6, h.f7, h.f8, h.f9, h.f10, h.f11, h.f12, h.f13, h.f14, h.f15, h.f16, h.f17, h.f18, h.f19⟩⟩
    · have s_0 : S 0 = true := hall ⟨0, .data⟩ (by simp) rfl
      obtain rfl := h.f0 s_0
      go_simp
      exact hK _ _ ⟨x3, _, _, x10, x11, x12, x13, x14, x15, x16, x17, x18, x19, x20, x21, x22, x23, x24, x25, x26, rfl, ⟨h.e, h.f0, fun _ => rfl, h.f2, h.f3, h.f4, h.f5, h.f6, h.f7, h.f8, h.f9, h.f10, h.f11, h.f12, h.f13, h.f14, h.f15, h.f16, h.f17, h.f18, h.f19⟩⟩
    · have s_1 : S 1 = true := hall ⟨1, .data⟩ (by simp) rfl
      obtain rfl := h.f1 s_1
      go_simp
      exact hK _ _ ⟨x3, x8, _, _, x11, x12, x13, x14, x15, x16, x17, x18, x19, x20, x21, x22, x23, x24, x25, x26, rfl, ⟨h.e, h.f0, h.f1, fun _ => rfl, h.f3, h.f4, h.f5, h.f6, h.f7, h.f8, h.f9, h.f10, h.f11, h.f12, h.f13, h.f14, h.f15, h.f16, h.f17, h.f18, h.f19⟩⟩
    · have s_2 : S 2 = true := hall ⟨2, .data⟩ (by simp) rfl
      obtain rfl := h.f2 s_2
      go_simp
      exact hK _ _ ⟨x3, x8, x9, _, _, x12, x13, x14, x15, x16, x17, x18, x19, x20, x21, x22, x23, x24, x25, x26, rfl, ⟨h.e, h.f0, h.f1, h.f2, fun _ => rfl, h.f4, h.f5, h.f6, h.f7, h.f8, h.f9, h.f10, h.f11, h.f12, h.f13, h.f14, h.f15, h.f16, h.f17, h.f18, h.f19⟩⟩
    · go_simp
      exact hK _ _ ⟨x3, x8, x9, x10, x11, _, x13, x14, x15, x16, x17, x18, x19, x20, x21, x22, x23, x24, x25, x26, rfl, ⟨h.e, h.f0, h.f1, h.f2, h.f3, fun _ => rfl, h.f5, h.f6, h.f7, h.f8, h.f9, h.f10, h.f11, h.f12, h.f13, h.f14, h.f15, h.f16, h.f17, h.f18, h.f19⟩⟩
    · have s_4 : S 4 = true := hall ⟨4, .data⟩ (by simp) rfl
      obtain rfl := h.f4 s_4
      go_simp
      exact hK _ _ ⟨x3, x8, x9, x10, x11, _, _, x14, x15, x16, x17, x18, x19, x20, x21, x22, x23, x24, x25, x26, rfl, ⟨h.e, h.f0, h.f1, h.f2, h.f3, h.f4, fun _ => rfl, h.f6, h.f7, h.f8, h.f9, h.f10, h.f11, h.f12, h.f13, h.f14, h.f15, h.f16, h.f17, h.f18, h.f19⟩⟩
    · have s_5 : S 5 = true := hall ⟨5, .data⟩ (by simp) rfl
      obtain rfl := h.f5 s_5
      go_simp
      exact hK _ _ ⟨x3, x8, x9, x10, x11, x12, _, _, x15, x16, x17, x18, x19, x20, x21, x22, x23, x24, x25, x26, rfl, ⟨h.e, h.f0, h.f1, h.f2, h.f3, h.f4, h.f5, fun _ => rfl, h.f7, h.f8, h.f9, h.f10, h.f11, h.f12, h.f13, h.f14, h.f15, h.f16, h.f17, h.f18, h.f19⟩⟩
    · have s_6 : S 6 = true := hall ⟨6, .data⟩ (by simp) rfl
      obtain rfl := h.f6 s_6
      go_simp
      exact hK _ _ ⟨x3, x8, x9, x10, x11, x12, x13, _, _, x16, x17, x18, x19, x20, x21, x22, x23, x24, x25, x26, rfl, ⟨h.e, h.f0, h.f1, h.f2, h.f3, h.f4, h.f5, h.f6, fun _ => rfl, h.f8, h.f9, h.f10, h.f11, h.f12, h.f13, h.f14, h.f15, h.f16, h.f17, h.f18, h.f19⟩⟩
    · have s_3 : S 3 = true := hall ⟨3, .data⟩ (by simp) rfl
      obtain rfl := h.f3 s_3
      have s_7 : S 7 = true := hall ⟨7, .data⟩ (by simp) rfl
      obtain rfl := h.f7 s_7
      go_simp
      exact hK _ _ ⟨x3, x8, x9, x10, _, x12, x13, x14, _, _, x17, x18, x19, x20, x21, x22, x23, x24, x25, x26, rfl, ⟨h.e, h.f0, h.f1, h.f2, h.f3, h.f4, h.f5, h.f6, h.f7, fun _ => rfl, h.f9, h.f10, h.f11, h.f12, h.f13, h.f14, h.f15, h.f16, h.f17, h.f18, h.f19⟩⟩
    · go_simp
      exact hK _ _ ⟨x3, x8, x9, x10, x11, x12, x13, x14, x15, x16, _, x18, x19, x20, x21, x22, x23, x24, x25, x26, rfl, ⟨h.e, h.f0, h.f1, h.f2, h.f3, h.f4, h.f5, h.f6, h.f7, h.f8, fun _ => rfl, h.f10, h.f11, h.f12, h.f13, h.f14, h.f15, h.f16, h.f17, h.f18, h.f19⟩⟩
    · have s_9 : S 9 = true := hall ⟨9, .data⟩ (by simp) rfl
      obtain rfl := h.f9 s_9
      go_simp
      exact hK _ _ ⟨x3, x8, x9, x10, x11, x12, x13, x14, x15, x16, _, _, x19, x20, x21, x22, x23, x24, x25, x26, rfl, ⟨h.e, h.f0, h.f1, h.f2, h.f3, h.f4, h.f5, h.f6, h.f7, h.f8, h.f9, fun _ => rfl, h.f11, h.f12, h.f13, h.f14, h.f15, h.f16, h.f17, h.f18, h.f19⟩⟩
    · have s_10 : S 10 = true := hall ⟨10, .data⟩ (by simp) rfl
      obtain rfl := h.f10 s_10
      go_simp
      exact hK _ _ ⟨x3, x8, x9, x10, x11, x12, x13, x14, x15, x16, x17, _, _, x20, x21, x22, x23, x24, x25, x26, rfl, ⟨h.e, h.f0, h.f1, h.f2, h.f3, h.f4, h.f5, h.f6, h.f7, h.f8, h.f9, h.f10, fun _ => rfl, h.f12, h.f13, h.f14, h.f15, h.f16, h.f17, h.f18, h.f19⟩⟩
    · have s_11 : S 11 = true := hall ⟨11, .data⟩ (by simp) rfl
      obtain rfl := h.f11 s_11
      go_simp
      exact hK _ _ ⟨x3, x8, x9, x10, x11, x12, x13, x14, x15, x16, x17, x18, _, _, x21, x22, x23, x24, x25, x26, rfl, ⟨h.e, h.f0, h.f1, h.f2, h.f3, h.f4, h.f5, h.f6, h.f7, h.f8, h.f9, h.f10, h.f11, fun _ => rfl, h.f13, h.f14, h.f15, h.f16, h.f17, h.f18, h.f19⟩⟩
    · have s_8 : S 8 = true := hall ⟨8, .data⟩ (by simp) rfl
      obtain rfl := h.f8 s_8
      have s_12 : S 12 = true := hall ⟨12, .data⟩ (by simp) rfl
      obtain rfl := h.f12 s_12
      go_simp
      exact hK _ _ ⟨x3, x8, x9, x10, x11, x12, x13, x14, x15, _, x17, x18, x19, _, _, x22, x23, x24, x25, x26, rfl, ⟨h.e, h.f0, h.f1, h.f2, h.f3, h.f4, h.f5, h.f6, h.f7, h.f8, h.f9, h.f10, h.f11, h.f12, fun _ => rfl, h.f14, h.f15, h.f16, h.f17, h.f18, h.f19⟩⟩
    · go_simp
      exact hK _ _ ⟨x3, x8, x9, x10, x11, x12, x13, x14, x15, x16, x17, x18, x19, x20, x21, _, x23, x24, x25, x26, rfl, ⟨h.e, h.f0, h.f1, h.f2, h.f3, h.f4, h.f5, h.f6, h.f7, h.f8, h.f9, h.f10, h.f11, h.f12, h.f13, fun _ => rfl, h.f15, h.f16, h.f17, h.f18, h.f19⟩⟩
    · have s_14 : S 14 = true := hall ⟨14, .data⟩ (by simp) rfl
      obtain rfl := h.f14 s_14
      go_simp
      exact hK _ _ ⟨x3, x8, x9, x10, x11, x12, x13, x14, x15, x16, x17, x18, x19, x20, x21, _, _, x24, x25, x26, rfl, ⟨h.e, h.f0, h.f1, h.f2, h.f3, h.f4, h.f5, h.f6, h.f7, h.f8, h.f9, h.f10, h.f11, h.f12, h.f13, h.f14, fun _ => rfl, h.f16, h.f17, h.f18, h.f19⟩⟩
    · have s_15 : S 15 = true := hall ⟨15, .data⟩ (by simp) rfl
      obtain rfl := h.f15 s_15
      go_simp
      exact hK _ _ ⟨x3, x8, x9, x10, x11, x12, x13, x14, x15, x16, x17, x18, x19, x20, x21, x22, _, _, x25, x26, rfl, ⟨h.e, h.f0, h.f1, h.f2, h.f3, h.f4, h.f5, h.f6, h.f7, h.f8, h.f9, h.f10, h.f11, h.f12, h.f13, h.f14, h.f15, fun _ => rfl, h.f17, h.f18, h.f19⟩⟩
    · have s_13 : S 13 = true := hall ⟨13, .data⟩ (by simp) rfl
      obtain rfl := h.f13 s_13
      have s_16 : S 16 = true := hall ⟨16, .data⟩ (by simp) rfl
      obtain rfl := h.f16 s_16
      go_simp
      exact hK _ _ ⟨x3, x8, x9, x10, x11, x12, x13, x14, x15, x16, x17, x18, x19, x20, _, x22, x23, _, _, x26, rfl, ⟨h.e, h.f0, h.f1, h.f2, h.f3, h.f4, h.f5, h.f6, h.f7, h.f8, h.f9, h.f10, h.f11, h.f12, h.f13, h.f14, h.f15, h.f16, fun _ => rfl, h.f18, h.f19⟩⟩
    · have s_17 : S 17 = true := hall ⟨17, .data⟩ (by simp) rfl
      obtain rfl := h.f17 s_17
      go_simp
      exact hK _ _ ⟨x3, x8, x9, x10, x11, x12, x13, x14, x15, x16, x17, x18, x19, x20, x21, x22, x23, x24, _, _, rfl, ⟨h.e, h.f0, h.f1, h.f2, h.f3, h.f4, h.f5, h.f6, h.f7, h.f8, h.f9, h.f10, h.f11, h.f12, h.f13, h.f14, h.f15, h.f16, h.f17, fun _ => rfl, h.f19⟩⟩
    · have h1 := h.grow ((Below.refl _ W).alloc (Nat.le_refl _) (.cells #[.int .u64 0, .int .u64 0, .bool false] 24))
      go_simp
      exact hK _ _ ⟨_, x8, x9, x10, x11, x12, x13, x14, x15, x16, x17, x18, x19, x20, x21, x22, x23, x24, x25, x26, rfl, ⟨h1.e, h1.f0, h1.f1, h1.f2, h1.f3, h1.f4, h1.f5, h1.f6, h1.f7, h1.f8, h1.f9, h1.f10, h1.f11, h1.f12, h1.f13, h1.f14, h1.f15, h1.f16, h1.f17, h1.f18, fun _ => ⟨_, rfl, h.e.size, Tb.new' W oP 24 _ rfl⟩⟩⟩
  · rintro S aa W hall ⟨x3, x8, x9, x10, x11, x12, x13, x14, x15, x16, x17, x18, x19, x20, x21, x22, x23, x24, x25, x26, rfl, h⟩
    obtain rfl := h.f0 (hall 0 (by decide))
    obtain rfl := h.f1 (hall 1 (by decide))
    obtain rfl := h.f2 (hall 2 (by decide))
    obtain rfl := h.f3 (hall 3 (by decide))
    obtain rfl := h.f4 (hall 4 (by decide))
    obtain rfl := h.f5 (hall 5 (by decide))
    obtain rfl := h.f6 (hall 6 (by decide))
    obtain rfl := h.f7 (hall 7 (by decide))
    obtain rfl := h.f8 (hall 8 (by decide))
    obtain rfl := h.f9 (hall 9 (by decide))
    obtain rfl := h.f10 (hall 10 (by decide))
    obtain rfl := h.f11 (hall 11 (by decide))
    obtain rfl := h.f12 (hall 12 (by decide))
    obtain rfl := h.f13 (hall 13 (by decide))
    obtain rfl := h.f14 (hall 14 (by decide))
    obtain rfl := h.f15 (hall 15 (by decide))
    obtain rfl := h.f16 (hall 16 (by decide))
    obtain rfl := h.f17 (hall 17 (by decide))
    obtain rfl := h.f18 (hall 18 (by decide))
    obtain ⟨b, rfl, hbz, hTb⟩ := h.f19 (hall 19 (by decide))
    have BWD := h.e
    clear h hall
    obtain ⟨BV, hO⟩ := HV.out
    have BW := belowStep BV BV.size BWD
    have O1 := hO.below BWD
    have hbw : w.heap.size < b := Nat.lt_of_lt_of_le hO.z hbz
    have P1 := hTb.over ⟨x, 0, false⟩
    have O1' := O1.other (g := b) ⟨x, 0, false⟩ (by omega)
    have BP := below_put3 BW (g := b) (by omega) ⟨x, 0, false⟩
    obtain ⟨tz, ta, tb, tc, tf⟩ := hTb
    have HX : Hid (_ ∧ _ ∧ _) := ⟨BP, O1', P1⟩
    clear BV hO BW O1 P1 O1' BP BWD HV
    go_wp2_with fail
    refine callsOf (fun W => Below w.heap.size w W ∧ Tb w.heap.size oP W ∧ Tb b ⟨x, 0, false⟩ W) HX.out ?_
    rintro v1 ⟨BV, hO, hP⟩
    clear HX tz ta tb tc tf
    refine (C1 _).mono ?_
    rintro e v2 ⟨rfl, B2⟩
    have O2 := hO.below B2
    have P2' := hP.below B2
    have BW2 := belowStep BV BV.size B2
    clear BV hO hP B2
    go_wp2_with fail
    refine (C2 _).mono ?_
    rintro e v3 ⟨rfl, B3⟩
    have O3 := O2.below B3
    have P3 := P2'.below B3
    have BW3 := belowStep BW2 BW2.size B3
    clear BW2 O2 P2' B3
    have PZ : Tb b ⟨x, r, false⟩ (v3.setCell ⟨b, 1, none⟩ (.int .u64 (r : Int))) := P3.setY r
    have OZ : Tb w.heap.size oP (v3.setCell ⟨b, 1, none⟩ (.int .u64 (r : Int))) := O3.otherC (by omega) 1 _
    have BZ : Below w.heap.size w (v3.setCell ⟨b, 1, none⟩ (.int .u64 (r : Int))) := BW3.setCell (p := ⟨b, 1, none⟩) (by show _ ≤ b; omega) _
    have HX : Hid (_ ∧ _ ∧ _) := ⟨BZ, OZ, PZ⟩
    obtain ⟨tz, ta, tb, tc, tf⟩ := P3
    have ⟨oz, oa, ob, oc, of⟩ := O3
    have hne : w.heap.size ≠ b := by omega
    have hne' : b ≠ w.heap.size := by omega
    clear BW3 PZ OZ BZ
    by_cases h3 : y0 = 3
    · subst h3
      go_wp2_with fail
      refine callsOf (fun W => Below w.heap.size w W ∧ Tb w.heap.size oP W ∧ Tb b ⟨x, r, false⟩ W) HX.out ?_
      rintro v4 ⟨BV, hO, hP⟩
      clear HX tz ta tb tc tf O3
      refine (C3 _).mono ?_
      rintro e v5 ⟨rfl, B5⟩
      obtain ⟨qz, qa, qb, qc, qf⟩ := hO.below B5
      have BW5 := belowStep BV BV.size B5
      clear BV hO hP B5
      go_wp2_with fail
      refine bodyPost_ret (v := vT n) (by simp [results, Tryd.results36, go_sem, *]) rfl ⟨by rw [← HF.out, if_pos trivial], ?_⟩
      exact below_put3 (y := n) BW5 (by omega)
    · have h3' : ¬ (y0 : Int) = 3 := by omega
      have h3'' : ((y0 : Int) == 3) = false := by rw [beq_eq_false_iff_ne]; exact h3'
      go_wp2_with fail
      refine bodyPost_ret (v := vT ⟨x, r, false⟩) (by simp [results, Tryd.results36, go_sem, *]) rfl ⟨by rw [← HF.out, if_neg h3], ?_⟩
      exact below_put3 (y := ⟨x, r, false⟩) HX.out.1 (Nat.le_refl _)
end Go.Proofs.YtlcdlegdnibcaaaDoor
