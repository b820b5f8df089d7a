/- The law ShaParts, walked. -/
import Derived.Test.YtpaiopnhipdikaaDoorS13
import Derived.Test.YtpaiopnhipdikaaDoorTail3
namespace Go.Proofs.YtpaiopnhipdikaaDoor
open Go.RowKit Go.Sort

/-- What holds while a statement runs. -/
structure JP (V : World) (t t1 t2 a : ByteArray) (p : Nat) (S : Nat → Bool) (x4 x21 x22 x23 x24 x25 x26 x27 x28 x29 x30 x31 x32 x33 x34 x35 x36 x37 x38 x39 x40 x41 x42 x43 x44 x45 : Value) (W : World) : Prop where
  e : Below V.heap.size V W
  f0 : S 0 = true → x21 = .bool true
  f1 : S 1 = true → x22 = .bool true
  f2 : S 2 = true → x23 = .string a
  f3 : S 3 = true → x24 = .int .i64 32
  f4 : S 4 = true → x25 = .bool true
  f5 : S 5 = true → x26 = .bool true
  f6 : S 6 = true → x27 = .bool true
  f7 : S 7 = true → x28 = .string t
  f8 : S 8 = true → x29 = .int .i64 (p : Int)
  f9 : S 9 = true → x30 = .string t1
  f10 : S 10 = true → x31 = .string t
  f11 : S 11 = true → x32 = .int .i64 (p : Int)
  f12 : S 12 = true → x33 = .string t2
  f13 : S 13 = true → ∃ g, x34 = .slice (some ⟨g, 0, none⟩) 2 2 ∧ g < W.heap.size ∧ W.cell? ⟨g, 0, none⟩ = some (.string t1) ∧ W.cell? ⟨g, 1, none⟩ = some (.string t2)
  f14 : S 14 = true → x35 = .string a
  f15 : S 15 = true → x36 = .string a
  f16 : S 16 = true → x37 = .bool true
  f17 : S 17 = true → x38 = .bool true
  f18 : S 18 = true → x39 = .bool true
  f19 : S 19 = true → x40 = .string t
  f20 : S 20 = true → ∃ g, x41 = .slice (some ⟨g, 0, none⟩) 3 3 ∧ g < W.heap.size ∧ W.cell? ⟨g, 0, none⟩ = some (.string ⟨#[]⟩) ∧ W.cell? ⟨g, 1, none⟩ = some (.string t) ∧ W.cell? ⟨g, 2, none⟩ = some (.string ⟨#[]⟩)
  f21 : S 21 = true → x42 = .string a
  f22 : S 22 = true → x43 = .string a
  f23 : S 23 = true → x44 = .bool true
  f24 : S 24 = true → x45 = .bool true
  f25 : S 25 = true → x4 = .bool true
theorem JP.grow {V : World} {t t1 t2 a : ByteArray} {p : Nat} {S : Nat → Bool} {x4 x21 x22 x23 x24 x25 x26 x27 x28 x29 x30 x31 x32 x33 x34 x35 x36 x37 x38 x39 x40 x41 x42 x43 x44 x45 : Value} {W W' : World} (h : JP V t t1 t2 a p S x4 x21 x22 x23 x24 x25 x26 x27 x28 x29 x30 x31 x32 x33 x34 x35 x36 x37 x38 x39 x40 x41 x42 x43 x44 x45 W) (hb : Below W.heap.size W W') : JP V t t1 t2 a p S x4 x21 x22 x23 x24 x25 x26 x27 x28 x29 x30 x31 x32 x33 x34 x35 x36 x37 x38 x39 x40 x41 x42 x43 x44 x45 W' :=
  ⟨belowStep h.e h.e.size hb, h.f0, h.f1, h.f2, h.f3, h.f4, h.f5, h.f6, h.f7, h.f8, h.f9, h.f10, h.f11, h.f12, fun s => (h.f13 s).imp fun _ ⟨j1, j2, c0, c1⟩ => ⟨j1, Nat.lt_of_lt_of_le j2 hb.size, (hb.cell (p := ⟨_, 0, none⟩) j2).trans c0, (hb.cell (p := ⟨_, 1, none⟩) j2).trans c1⟩, h.f14, h.f15, h.f16, h.f17, h.f18, h.f19, fun s => (h.f20 s).imp fun _ ⟨j1, j2, c0, c1, c2⟩ => ⟨j1, Nat.lt_of_lt_of_le j2 hb.size, (hb.cell (p := ⟨_, 0, none⟩) j2).trans c0, (hb.cell (p := ⟨_, 1, none⟩) j2).trans c1, (hb.cell (p := ⟨_, 2, none⟩) j2).trans c2⟩, h.f21, h.f22, h.f23, h.f24, h.f25⟩

set_option maxRecDepth 20000 in
set_option maxHeartbeats 4000000 in
theorem parts_any (s : ByteArray) (at' : Int) (w : World) (hl : Laid w) :
    Calls Tryd.prog 5 #[.string s, .int .i64 at'] w fun e w' => e = .returned (.bool true) ∧ Below w.heap.size w w' := by
  go_enter Tryd.func5, Tryd.ntmps5
  go_wp2_with fail
  refine (shown_any w hl).mono ?_
  rintro e w1 ⟨rfl, B1⟩
  have L1 := hl.below B1
  go_wp2_with fail
  obtain ⟨n, hn⟩ : ∃ n : Nat, (min (s.size : Int) 100000).toNat = n := ⟨_, rfl⟩
  have hns : n ≤ s.size ∧ n ≤ 100000 := by omega
  rw [hn]
  obtain ⟨t, ht⟩ : ∃ t, s.extract 0 n = t := ⟨_, rfl⟩
  have htn : t.size = n := by rw [← ht, ByteArray.size_extract]; omega
  obtain ⟨p, hp, hpn⟩ : ∃ p : Nat, max 0 (min at' ((min n s.size : Nat) : Int)) = (p : Int) ∧ p ≤ n := ⟨(max 0 (min at' ((min n s.size : Nat) : Int))).toNat, by omega, by omega⟩
  rw [ht, hp]
  obtain ⟨a, ha⟩ : ∃ a, sumOf t = a := ⟨_, rfl⟩
  have haz : a.size = 32 := by rw [← ha]; exact sum_size t
  have B2 : Below w1.heap.size w1 (w1.alloc (.cells #[.string t] 9)) := (Below.refl _ w1).alloc (Nat.le_refl _) _
  have hc := sum_list w1.heap.size 0 1 [t] (w1.alloc (.cells #[.string t] 9)) (L1.below B2) (fun j x hx => by
    match j, hx with
    | 0, hx => cases hx; simp) (by simp) (by simp) (by simp) (by simp [Lib.join]; have : t.data.size = t.size := rfl; omega)
  rw [join_one, ha] at hc
  refine hc.mono ?_
  rintro e w2 ⟨rfl, B3⟩
  have BW2 := belowStep B1 B1.size (belowStep B2 B2.size B3)
  clear hc B1 B2 B3
  obtain ⟨t1, ht1⟩ : ∃ t1, t.extract 0 p = t1 := ⟨_, rfl⟩
  obtain ⟨t2, ht2⟩ : ∃ t2, t.extract p t.size = t2 := ⟨_, rfl⟩
  have hz1 : t1.size ≤ 100000 := by rw [← ht1, ByteArray.size_extract]; omega
  have hz2 : t2.size ≤ 100000 := by rw [← ht2, ByteArray.size_extract]; omega
  have hS2 : ∀ g W, Below w2.heap.size w2 W → g < W.heap.size → W.cell? ⟨g, 0, none⟩ = some (.string t1) → W.cell? ⟨g, 1, none⟩ = some (.string t2) → Calls Tryd.prog 10 #[.slice (some ⟨g, 0, none⟩) 2 2] W fun e w' => e = .returned (.string a) ∧ Below W.heap.size W w' := by
    intro g W hB hg h0 h1
    have hc := sum_list g 0 2 [t1, t2] W (hl.below (belowStep BW2 BW2.size hB)) (fun j x hx => by
      match j, hx with
      | 0, hx => cases hx; simpa using h0
      | 1, hx => cases hx; simpa using h1) hg (by simp) (by simp) (by simp [Lib.join]; have e1 : t1.data.size = t1.size := rfl; have e2 : t2.data.size = t2.size := rfl; omega)
    rw [← ht1, ← ht2, join_two t p (by omega), ha] at hc
    exact hc
  have hS3 : ∀ g W, Below w2.heap.size w2 W → g < W.heap.size → W.cell? ⟨g, 0, none⟩ = some (.string ⟨#[]⟩) → W.cell? ⟨g, 1, none⟩ = some (.string t) → W.cell? ⟨g, 2, none⟩ = some (.string ⟨#[]⟩) → Calls Tryd.prog 10 #[.slice (some ⟨g, 0, none⟩) 3 3] W fun e w' => e = .returned (.string a) ∧ Below W.heap.size W w' := by
    intro g W hB hg h0 h1 h2
    have hc := sum_list g 0 3 [⟨#[]⟩, t, ⟨#[]⟩] W (hl.below (belowStep BW2 BW2.size hB)) (fun j x hx => by
      match j, hx with
      | 0, hx => cases hx; simpa using h0
      | 1, hx => cases hx; simpa using h1
      | 2, hx => cases hx; simpa using h2) hg (by simp) (by simp) (by simp [Lib.join]; have e1 : t.data.size = t.size := rfl; omega)
    rw [join_mid, ha] at hc
    exact hc
  have HK : Hid (_ ∧ _) := ⟨hS2, hS3⟩
  clear hS2 hS3 hz1 hz2
  go_wp2_with fail
  refine region_inv (fun S aa W => ∃ x4 x21 x22 x23 x24 x25 x26 x27 x28 x29 x30 x31 x32 x33 x34 x35 x36 x37 x38 x39 x40 x41 x42 x43 x44 x45 : Value, aa = { tmps := #[Value.string t, Value.int IntKind.i64 ↑p, undef, undef, x4, Value.bool true, Value.string a, Value.bool true, Value.string s, Value.string s, Value.int IntKind.i64 ↑s.size, Value.int IntKind.i64 (min (↑s.size) 100000), Value.string t, Value.int IntKind.i64 at', Value.string t, Value.int IntKind.i64 ↑n, Value.int IntKind.i64 (min at' ↑n), Value.int IntKind.i64 ↑p, Value.string t, Value.slice (some { block := w1.heap.size, off := 0 }) 1 1, Value.string a, x21, x22, x23, x24, x25, x26, x27, x28, x29, x30, x31, x32, x33, x34, x35, x36, x37, x38, x39, x40, x41, x42, x43, x44, x45], defers := [] } ∧ JP w2 t t1 t2 a p S x4 x21 x22 x23 x24 x25 x26 x27 x28 x29 x30 x31 x32 x33 x34 x35 x36 x37 x38 x39 x40 x41 x42 x43 x44 x45 W) (by kernel_rfl) (by kernel_rfl) ?_ ?_ ?_
  · exact ⟨Value.bool false, undef, undef, undef, undef, undef, undef, undef, undef, undef, undef, undef, undef, undef, undef, undef, undef, undef, undef, undef, undef, undef, undef, undef, undef, undef, rfl, ⟨(Below.refl _ w2).drew, nofun, nofun, nofun, nofun, nofun, nofun, nofun, nofun, nofun, nofun, nofun, nofun, nofun, nofun, nofun, nofun, nofun, nofun, nofun, nofun, nofun, nofun, nofun, nofun, nofun, nofun⟩⟩
  · intro i o S aa W hi hun hJ hall K hK
    obtain ⟨x4, x21, x22, x23, x24, x25, x26, x27, x28, x29, x30, x31, x32, x33, x34, x35, x36, x37, x38, x39, x40, x41, x42, x43, x44, x45, rfl, h⟩ := hJ
    have hlt : i < 26 := (List.getElem?_eq_some_iff.1 hi).1
    have hcase : i = 0 ∨ i = 1 ∨ i = 2 ∨ i = 3 ∨ i = 4 ∨ i = 5 ∨ i = 6 ∨ i = 7 ∨ i = 8 ∨ i = 9 ∨ i = 10 ∨ i = 11 ∨ i = 12 ∨ i = 13 ∨ i = 14 ∨ i = 15 ∨ i = 16 ∨ i = 17 ∨ i = 18 ∨ i = 19 ∨ i = 20 ∨ i = 21 ∨ i = 22 ∨ i = 23 ∨ i = 24 ∨ i = 25 := by omega
    rcases hcase with rfl | rfl | rfl | rfl | rfl | rfl | rfl | rfl | rfl | rfl | rfl | rfl | rfl | rfl | rfl | rfl | rfl | rfl | rfl | rfl | rfl | rfl | rfl | rfl | rfl | rfl
    all_goals (have ho := (Option.some.inj hi).symm; subst ho; clear hi hlt)
    · go_simp
      exact hK _ _ ⟨x4, _, x22, x23, x24, x25, x26, x27, x28, x29, x30, x31, x32, x33, x34, x35, x36, x37, x38, x39, x40, x41, x42, x43, x44, x45, rfl, ⟨h.e, fun _ => rfl, h.f1, h.f2, h.f3, h.f4, h.f5, h.f6, h.f7, h.f8, h.f9, h.f10, h.f11, h.f12, h.f13, h.f14, h.f15, h.f16, h.f17, h.f18, h.f19, h.f20, h.f21, h.f22, h.f23, h.f24, h.f25⟩⟩
    · have s_0 : S 0 = true := hall ⟨0, .data⟩ (by simp) rfl
      obtain rfl := h.f0 s_0
      go_simp
      exact hK _ _ ⟨x4, _, _, x23, x24, x25, x26, x27, x28, x29, x30, x31, x32, x33, x34, x35, x36, x37, x38, x39, x40, x41, x42, x43, x44, x45, rfl, ⟨h.e, h.f0, fun _ => rfl, h.f2, h.f3, h.f4, h.f5, h.f6, h.f7, h.f8, h.f9, h.f10, h.f11, h.f12, h.f13, h.f14, h.f15, h.f16, h.f17, h.f18, h.f19, h.f20, h.f21, h.f22, h.f23, h.f24, h.f25⟩⟩
    · have s_1 : S 1 = true := hall ⟨1, .guard⟩ (by simp) rfl
      obtain rfl := h.f1 s_1
      go_simp
      exact hK _ _ ⟨x4, x21, _, _, x24, x25, x26, x27, x28, x29, x30, x31, x32, x33, x34, x35, x36, x37, x38, x39, x40, x41, x42, x43, x44, x45, rfl, ⟨h.e, h.f0, h.f1, fun _ => rfl, h.f3, h.f4, h.f5, h.f6, h.f7, h.f8, h.f9, h.f10, h.f11, h.f12, h.f13, h.f14, h.f15, h.f16, h.f17, h.f18, h.f19, h.f20, h.f21, h.f22, h.f23, h.f24, h.f25⟩⟩
    · have s_2 : S 2 = true := hall ⟨2, .data⟩ (by simp) rfl
      obtain rfl := h.f2 s_2
      have s_1 : S 1 = true := hall ⟨1, .guard⟩ (by simp) rfl
      obtain rfl := h.f1 s_1
      go_simp
      exact hK _ _ ⟨x4, x21, _, _, _, x25, x26, x27, x28, x29, x30, x31, x32, x33, x34, x35, x36, x37, x38, x39, x40, x41, x42, x43, x44, x45, rfl, ⟨h.e, h.f0, h.f1, h.f2, fun _ => rfl, h.f4, h.f5, h.f6, h.f7, h.f8, h.f9, h.f10, h.f11, h.f12, h.f13, h.f14, h.f15, h.f16, h.f17, h.f18, h.f19, h.f20, h.f21, h.f22, h.f23, h.f24, h.f25⟩⟩
    · have s_3 : S 3 = true := hall ⟨3, .data⟩ (by simp) rfl
      obtain rfl := h.f3 s_3
      have s_1 : S 1 = true := hall ⟨1, .guard⟩ (by simp) rfl
      obtain rfl := h.f1 s_1
      go_simp
      exact hK _ _ ⟨x4, x21, _, x23, _, _, x26, x27, x28, x29, x30, x31, x32, x33, x34, x35, x36, x37, x38, x39, x40, x41, x42, x43, x44, x45, rfl, ⟨h.e, h.f0, h.f1, h.f2, h.f3, fun _ => rfl, h.f5, h.f6, h.f7, h.f8, h.f9, h.f10, h.f11, h.f12, h.f13, h.f14, h.f15, h.f16, h.f17, h.f18, h.f19, h.f20, h.f21, h.f22, h.f23, h.f24, h.f25⟩⟩
    · have s_1 : S 1 = true := hall ⟨1, .data⟩ (by simp) rfl
      obtain rfl := h.f1 s_1
      have s_4 : S 4 = true := hall ⟨4, .data⟩ (by simp) rfl
      obtain rfl := h.f4 s_4
      go_simp
      exact hK _ _ ⟨x4, x21, _, x23, x24, _, _, x27, x28, x29, x30, x31, x32, x33, x34, x35, x36, x37, x38, x39, x40, x41, x42, x43, x44, x45, rfl, ⟨h.e, h.f0, h.f1, h.f2, h.f3, h.f4, fun _ => rfl, h.f6, h.f7, h.f8, h.f9, h.f10, h.f11, h.f12, h.f13, h.f14, h.f15, h.f16, h.f17, h.f18, h.f19, h.f20, h.f21, h.f22, h.f23, h.f24, h.f25⟩⟩
    · have s_5 : S 5 = true := hall ⟨5, .data⟩ (by simp) rfl
      obtain rfl := h.f5 s_5
      go_simp
      exact hK _ _ ⟨x4, x21, x22, x23, x24, x25, _, _, x28, x29, x30, x31, x32, x33, x34, x35, x36, x37, x38, x39, x40, x41, x42, x43, x44, x45, rfl, ⟨h.e, h.f0, h.f1, h.f2, h.f3, h.f4, h.f5, fun _ => rfl, h.f7, h.f8, h.f9, h.f10, h.f11, h.f12, h.f13, h.f14, h.f15, h.f16, h.f17, h.f18, h.f19, h.f20, h.f21, h.f22, h.f23, h.f24, h.f25⟩⟩
    · have s_6 : S 6 = true := hall ⟨6, .guard⟩ (by simp) rfl
      obtain rfl := h.f6 s_6
      go_simp
      exact hK _ _ ⟨x4, x21, x22, x23, x24, x25, x26, _, _, x29, x30, x31, x32, x33, x34, x35, x36, x37, x38, x39, x40, x41, x42, x43, x44, x45, rfl, ⟨h.e, h.f0, h.f1, h.f2, h.f3, h.f4, h.f5, h.f6, fun _ => rfl, h.f8, h.f9, h.f10, h.f11, h.f12, h.f13, h.f14, h.f15, h.f16, h.f17, h.f18, h.f19, h.f20, h.f21, h.f22, h.f23, h.f24, h.f25⟩⟩
    · have s_6 : S 6 = true := hall ⟨6, .guard⟩ (by simp) rfl
      obtain rfl := h.f6 s_6
      go_simp
      exact hK _ _ ⟨x4, x21, x22, x23, x24, x25, x26, _, x28, _, x30, x31, x32, x33, x34, x35, x36, x37, x38, x39, x40, x41, x42, x43, x44, x45, rfl, ⟨h.e, h.f0, h.f1, h.f2, h.f3, h.f4, h.f5, h.f6, h.f7, fun _ => rfl, h.f9, h.f10, h.f11, h.f12, h.f13, h.f14, h.f15, h.f16, h.f17, h.f18, h.f19, h.f20, h.f21, h.f22, h.f23, h.f24, h.f25⟩⟩
    · have s_7 : S 7 = true := hall ⟨7, .data⟩ (by simp) rfl
      obtain rfl := h.f7 s_7
      have s_8 : S 8 = true := hall ⟨8, .data⟩ (by simp) rfl
      obtain rfl := h.f8 s_8
      have s_6 : S 6 = true := hall ⟨6, .guard⟩ (by simp) rfl
      obtain rfl := h.f6 s_6
      go_simp
      exact hK _ _ ⟨x4, x21, x22, x23, x24, x25, x26, _, _, _, _, x31, x32, x33, x34, x35, x36, x37, x38, x39, x40, x41, x42, x43, x44, x45, rfl, ⟨h.e, h.f0, h.f1, h.f2, h.f3, h.f4, h.f5, h.f6, h.f7, h.f8, fun _ => by rw [← ht1], h.f10, h.f11, h.f12, h.f13, h.f14, h.f15, h.f16, h.f17, h.f18, h.f19, h.f20, h.f21, h.f22, h.f23, h.f24, h.f25⟩⟩
    · have s_6 : S 6 = true := hall ⟨6, .guard⟩ (by simp) rfl
      obtain rfl := h.f6 s_6
      go_simp
      exact hK _ _ ⟨x4, x21, x22, x23, x24, x25, x26, _, x28, x29, x30, _, x32, x33, x34, x35, x36, x37, x38, x39, x40, x41, x42, x43, x44, x45, rfl, ⟨h.e, h.f0, h.f1, h.f2, h.f3, h.f4, h.f5, h.f6, h.f7, h.f8, h.f9, fun _ => rfl, h.f11, h.f12, h.f13, h.f14, h.f15, h.f16, h.f17, h.f18, h.f19, h.f20, h.f21, h.f22, h.f23, h.f24, h.f25⟩⟩
    · have s_6 : S 6 = true := hall ⟨6, .guard⟩ (by simp) rfl
      obtain rfl := h.f6 s_6
      go_simp
      exact hK _ _ ⟨x4, x21, x22, x23, x24, x25, x26, _, x28, x29, x30, x31, _, x33, x34, x35, x36, x37, x38, x39, x40, x41, x42, x43, x44, x45, rfl, ⟨h.e, h.f0, h.f1, h.f2, h.f3, h.f4, h.f5, h.f6, h.f7, h.f8, h.f9, h.f10, fun _ => rfl, h.f12, h.f13, h.f14, h.f15, h.f16, h.f17, h.f18, h.f19, h.f20, h.f21, h.f22, h.f23, h.f24, h.f25⟩⟩
    · have s_10 : S 10 = true := hall ⟨10, .data⟩ (by simp) rfl
      obtain rfl := h.f10 s_10
      have s_11 : S 11 = true := hall ⟨11, .data⟩ (by simp) rfl
      obtain rfl := h.f11 s_11
      have s_6 : S 6 = true := hall ⟨6, .guard⟩ (by simp) rfl
      obtain rfl := h.f6 s_6
      go_simp
      exact hK _ _ ⟨x4, x21, x22, x23, x24, x25, x26, _, x28, x29, x30, _, _, _, x34, x35, x36, x37, x38, x39, x40, x41, x42, x43, x44, x45, rfl, ⟨h.e, h.f0, h.f1, h.f2, h.f3, h.f4, h.f5, h.f6, h.f7, h.f8, h.f9, h.f10, h.f11, fun _ => by rw [← ht2, htn], h.f13, h.f14, h.f15, h.f16, h.f17, h.f18, h.f19, h.f20, h.f21, h.f22, h.f23, h.f24, h.f25⟩⟩
    · have s_9 : S 9 = true := hall ⟨9, .data⟩ (by simp) rfl
      obtain rfl := h.f9 s_9
      have s_12 : S 12 = true := hall ⟨12, .data⟩ (by simp) rfl
      obtain rfl := h.f12 s_12
      have s_6 : S 6 = true := hall ⟨6, .guard⟩ (by simp) rfl
      obtain rfl := h.f6 s_6
      go_simp
      have h1 := h.grow ((Below.refl _ W).alloc (Nat.le_refl _) (.cells #[.string t1, .string t2] 9))
      exact hK _ _ ⟨x4, x21, x22, x23, x24, x25, x26, _, x28, x29, _, x31, x32, _, _, x35, x36, x37, x38, x39, x40, x41, x42, x43, x44, x45, rfl, ⟨h1.e, h1.f0, h1.f1, h1.f2, h1.f3, h1.f4, h1.f5, h1.f6, h1.f7, h1.f8, h1.f9, h1.f10, h1.f11, h1.f12, fun _ => ⟨W.heap.size, rfl, by simp, by simp [go_sem], by simp [go_sem]⟩, h1.f14, h1.f15, h1.f16, h1.f17, h1.f18, h1.f19, h1.f20, h1.f21, h1.f22, h1.f23, h1.f24, h1.f25⟩⟩
    · have s_13 : S 13 = true := hall ⟨13, .data⟩ (by simp) rfl
      obtain ⟨g13, rfl, hg13, hc13_0, hc13_1⟩ := h.f13 s_13
      have s_6 : S 6 = true := hall ⟨6, .guard⟩ (by simp) rfl
      obtain rfl := h.f6 s_6
      go_simp
      refine (HK.out.1 g13 W h.e hg13 hc13_0 hc13_1).mono ?_
      rintro e w3 ⟨rfl, hb3⟩
      have h1 := h.grow hb3
      exact hK _ _ ⟨x4, x21, x22, x23, x24, x25, x26, _, x28, x29, x30, x31, x32, x33, _, _, x36, x37, x38, x39, x40, x41, x42, x43, x44, x45, rfl, ⟨h1.e, h1.f0, h1.f1, h1.f2, h1.f3, h1.f4, h1.f5, h1.f6, h1.f7, h1.f8, h1.f9, h1.f10, h1.f11, h1.f12, h1.f13, fun _ => rfl, h1.f15, h1.f16, h1.f17, h1.f18, h1.f19, h1.f20, h1.f21, h1.f22, h1.f23, h1.f24, h1.f25⟩⟩
    · have s_6 : S 6 = true := hall ⟨6, .guard⟩ (by simp) rfl
      obtain rfl := h.f6 s_6
      go_simp
      exact hK _ _ ⟨x4, x21, x22, x23, x24, x25, x26, _, x28, x29, x30, x31, x32, x33, x34, x35, _, x37, x38, x39, x40, x41, x42, x43, x44, x45, rfl, ⟨h.e, h.f0, h.f1, h.f2, h.f3, h.f4, h.f5, h.f6, h.f7, h.f8, h.f9, h.f10, h.f11, h.f12, h.f13, h.f14, fun _ => rfl, h.f16, h.f17, h.f18, h.f19, h.f20, h.f21, h.f22, h.f23, h.f24, h.f25⟩⟩
    · have s_14 : S 14 = true := hall ⟨14, .data⟩ (by simp) rfl
      obtain rfl := h.f14 s_14
      have s_15 : S 15 = true := hall ⟨15, .data⟩ (by simp) rfl
      obtain rfl := h.f15 s_15
      have s_6 : S 6 = true := hall ⟨6, .guard⟩ (by simp) rfl
      obtain rfl := h.f6 s_6
      go_simp
      exact hK _ _ ⟨x4, x21, x22, x23, x24, x25, x26, _, x28, x29, x30, x31, x32, x33, x34, _, _, _, x38, x39, x40, x41, x42, x43, x44, x45, rfl, ⟨h.e, h.f0, h.f1, h.f2, h.f3, h.f4, h.f5, h.f6, h.f7, h.f8, h.f9, h.f10, h.f11, h.f12, h.f13, h.f14, h.f15, fun _ => by simp, h.f17, h.f18, h.f19, h.f20, h.f21, h.f22, h.f23, h.f24, h.f25⟩⟩
    · have s_6 : S 6 = true := hall ⟨6, .data⟩ (by simp) rfl
      obtain rfl := h.f6 s_6
      have s_16 : S 16 = true := hall ⟨16, .data⟩ (by simp) rfl
      obtain rfl := h.f16 s_16
      go_simp
      exact hK _ _ ⟨x4, x21, x22, x23, x24, x25, x26, _, x28, x29, x30, x31, x32, x33, x34, x35, x36, _, _, x39, x40, x41, x42, x43, x44, x45, rfl, ⟨h.e, h.f0, h.f1, h.f2, h.f3, h.f4, h.f5, h.f6, h.f7, h.f8, h.f9, h.f10, h.f11, h.f12, h.f13, h.f14, h.f15, h.f16, fun _ => rfl, h.f18, h.f19, h.f20, h.f21, h.f22, h.f23, h.f24, h.f25⟩⟩
    · have s_17 : S 17 = true := hall ⟨17, .data⟩ (by simp) rfl
      obtain rfl := h.f17 s_17
      go_simp
      exact hK _ _ ⟨x4, x21, x22, x23, x24, x25, x26, x27, x28, x29, x30, x31, x32, x33, x34, x35, x36, x37, _, _, x40, x41, x42, x43, x44, x45, rfl, ⟨h.e, h.f0, h.f1, h.f2, h.f3, h.f4, h.f5, h.f6, h.f7, h.f8, h.f9, h.f10, h.f11, h.f12, h.f13, h.f14, h.f15, h.f16, h.f17, fun _ => rfl, h.f19, h.f20, h.f21, h.f22, h.f23, h.f24, h.f25⟩⟩
    · have s_18 : S 18 = true := hall ⟨18, .guard⟩ (by simp) rfl
      obtain rfl := h.f18 s_18
      go_simp
      exact hK _ _ ⟨x4, x21, x22, x23, x24, x25, x26, x27, x28, x29, x30, x31, x32, x33, x34, x35, x36, x37, x38, _, _, x41, x42, x43, x44, x45, rfl, ⟨h.e, h.f0, h.f1, h.f2, h.f3, h.f4, h.f5, h.f6, h.f7, h.f8, h.f9, h.f10, h.f11, h.f12, h.f13, h.f14, h.f15, h.f16, h.f17, h.f18, fun _ => rfl, h.f20, h.f21, h.f22, h.f23, h.f24, h.f25⟩⟩
    · have s_19 : S 19 = true := hall ⟨19, .data⟩ (by simp) rfl
      obtain rfl := h.f19 s_19
      have s_18 : S 18 = true := hall ⟨18, .guard⟩ (by simp) rfl
      obtain rfl := h.f18 s_18
      go_simp
      have h1 := h.grow ((Below.refl _ W).alloc (Nat.le_refl _) (.cells #[.string ⟨#[]⟩, .string t, .string ⟨#[]⟩] 9))
      exact hK _ _ ⟨x4, x21, x22, x23, x24, x25, x26, x27, x28, x29, x30, x31, x32, x33, x34, x35, x36, x37, x38, _, _, _, x42, x43, x44, x45, rfl, ⟨h1.e, h1.f0, h1.f1, h1.f2, h1.f3, h1.f4, h1.f5, h1.f6, h1.f7, h1.f8, h1.f9, h1.f10, h1.f11, h1.f12, h1.f13, h1.f14, h1.f15, h1.f16, h1.f17, h1.f18, h1.f19, fun _ => ⟨W.heap.size, rfl, by simp, by simp [go_sem], by simp [go_sem], by simp [go_sem]⟩, h1.f21, h1.f22, h1.f23, h1.f24, h1.f25⟩⟩
    · have s_20 : S 20 = true := hall ⟨20, .data⟩ (by simp) rfl
      obtain ⟨g20, rfl, hg20, hc20_0, hc20_1, hc20_2⟩ := h.f20 s_20
      have s_18 : S 18 = true := hall ⟨18, .guard⟩ (by simp) rfl
      obtain rfl := h.f18 s_18
      go_simp
      refine (HK.out.2 g20 W h.e hg20 hc20_0 hc20_1 hc20_2).mono ?_
      rintro e w3 ⟨rfl, hb3⟩
      have h1 := h.grow hb3
      exact hK _ _ ⟨x4, x21, x22, x23, x24, x25, x26, x27, x28, x29, x30, x31, x32, x33, x34, x35, x36, x37, x38, _, x40, _, _, x43, x44, x45, rfl, ⟨h1.e, h1.f0, h1.f1, h1.f2, h1.f3, h1.f4, h1.f5, h1.f6, h1.f7, h1.f8, h1.f9, h1.f10, h1.f11, h1.f12, h1.f13, h1.f14, h1.f15, h1.f16, h1.f17, h1.f18, h1.f19, h1.f20, fun _ => rfl, h1.f22, h1.f23, h1.f24, h1.f25⟩⟩
    · have s_18 : S 18 = true := hall ⟨18, .guard⟩ (by simp) rfl
      obtain rfl := h.f18 s_18
      go_simp
      exact hK _ _ ⟨x4, x21, x22, x23, x24, x25, x26, x27, x28, x29, x30, x31, x32, x33, x34, x35, x36, x37, x38, _, x40, x41, x42, _, x44, x45, rfl, ⟨h.e, h.f0, h.f1, h.f2, h.f3, h.f4, h.f5, h.f6, h.f7, h.f8, h.f9, h.f10, h.f11, h.f12, h.f13, h.f14, h.f15, h.f16, h.f17, h.f18, h.f19, h.f20, h.f21, fun _ => rfl, h.f23, h.f24, h.f25⟩⟩
    · have s_21 : S 21 = true := hall ⟨21, .data⟩ (by simp) rfl
      obtain rfl := h.f21 s_21
      have s_22 : S 22 = true := hall ⟨22, .data⟩ (by simp) rfl
      obtain rfl := h.f22 s_22
      have s_18 : S 18 = true := hall ⟨18, .guard⟩ (by simp) rfl
      obtain rfl := h.f18 s_18
      go_simp
      exact hK _ _ ⟨x4, x21, x22, x23, x24, x25, x26, x27, x28, x29, x30, x31, x32, x33, x34, x35, x36, x37, x38, _, x40, x41, _, _, _, x45, rfl, ⟨h.e, h.f0, h.f1, h.f2, h.f3, h.f4, h.f5, h.f6, h.f7, h.f8, h.f9, h.f10, h.f11, h.f12, h.f13, h.f14, h.f15, h.f16, h.f17, h.f18, h.f19, h.f20, h.f21, h.f22, fun _ => by simp, h.f24, h.f25⟩⟩
    · have s_18 : S 18 = true := hall ⟨18, .data⟩ (by simp) rfl
      obtain rfl := h.f18 s_18
      have s_23 : S 23 = true := hall ⟨23, .data⟩ (by simp) rfl
      obtain rfl := h.f23 s_23
      go_simp
      exact hK _ _ ⟨x4, x21, x22, x23, x24, x25, x26, x27, x28, x29, x30, x31, x32, x33, x34, x35, x36, x37, x38, _, x40, x41, x42, x43, _, _, rfl, ⟨h.e, h.f0, h.f1, h.f2, h.f3, h.f4, h.f5, h.f6, h.f7, h.f8, h.f9, h.f10, h.f11, h.f12, h.f13, h.f14, h.f15, h.f16, h.f17, h.f18, h.f19, h.f20, h.f21, h.f22, h.f23, fun _ => rfl, h.f25⟩⟩
    · have s_24 : S 24 = true := hall ⟨24, .data⟩ (by simp) rfl
      obtain rfl := h.f24 s_24
      go_simp
      exact hK _ _ ⟨_, x21, x22, x23, x24, x25, x26, x27, x28, x29, x30, x31, x32, x33, x34, x35, x36, x37, x38, x39, x40, x41, x42, x43, x44, _, rfl, ⟨h.e, h.f0, h.f1, h.f2, h.f3, h.f4, h.f5, h.f6, h.f7, h.f8, h.f9, h.f10, h.f11, h.f12, h.f13, h.f14, h.f15, h.f16, h.f17, h.f18, h.f19, h.f20, h.f21, h.f22, h.f23, h.f24, fun _ => rfl⟩⟩
  · rintro S aa W hall ⟨x4, x21, x22, x23, x24, x25, x26, x27, x28, x29, x30, x31, x32, x33, x34, x35, x36, x37, x38, x39, x40, x41, x42, x43, x44, x45, rfl, h⟩
    obtain rfl := h.f0 (hall 0 (by decide))
    obtain rfl := h.f1 (hall 1 (by decide))
    obtain rfl := h.f2 (hall 2 (by decide))
    obtain rfl := h.f3 (hall 3 (by decide))
    obtain rfl := h.f4 (hall 4 (by decide))
    obtain rfl := h.f5 (hall 5 (by decide))
    obtain rfl := h.f6 (hall 6 (by decide))
    obtain rfl := h.f7 (hall 7 (by decide))
    obtain rfl := h.f8 (hall 8 (by decide))
    obtain rfl := h.f9 (hall 9 (by decide))
    obtain rfl := h.f10 (hall 10 (by decide))
    obtain rfl := h.f11 (hall 11 (by decide))
    obtain rfl := h.f12 (hall 12 (by decide))
    obtain rfl := h.f14 (hall 14 (by decide))
    obtain rfl := h.f15 (hall 15 (by decide))
    obtain rfl := h.f16 (hall 16 (by decide))
    obtain rfl := h.f17 (hall 17 (by decide))
    obtain rfl := h.f18 (hall 18 (by decide))
    obtain rfl := h.f19 (hall 19 (by decide))
    obtain rfl := h.f21 (hall 21 (by decide))
    obtain rfl := h.f22 (hall 22 (by decide))
    obtain rfl := h.f23 (hall 23 (by decide))
    obtain rfl := h.f24 (hall 24 (by decide))
    obtain rfl := h.f25 (hall 25 (by decide))
    have BW := h.e
    clear h hall
    go_wp2
    go_ret
    exact ⟨rfl, belowStep BW2 BW2.size BW⟩
end Go.Proofs.YtpaiopnhipdikaaDoor
