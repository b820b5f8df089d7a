/- What is shown first: the root of two chunks, and a branch of one. -/
import Derived.Test.YtmemfdpfbeijeabDoorZ14
import Derived.Test.YtmemfdpfbeijeabDoorZ3
namespace Go.Proofs.YtmemfdpfbeijeabDoor
open Go.RowKit Go.Shelf Go.Sort
attribute [local go_sem] Oper.semAt_some

theorem pk33 : pk (zs 33) = [z32, z32] := by decide +kernel
theorem z64 : z32 ++ z32 = t64 := by decide +kernel
/-- The sum of 64 bytes 0. -/
def s64 : ByteArray := ⟨#[245, 165, 253, 66, 209, 106, 32, 48, 39, 152, 239, 110, 211, 9, 151, 155, 67, 0, 61, 35, 32, 217, 240, 232, 234, 152, 49, 169, 39, 89, 251, 75]⟩
theorem hs_zz : hs z32 z32 = s64 := by
  unfold hs
  rw [z64, t64_sum]
  rfl
theorem z96 : z32 ++ s64 = t96 := by decide +kernel
theorem rt_zz : rt8 [z32, z32] 1 = true := by
  rw [rt8_iff]
  refine ⟨by decide, by decide, by decide, by decide, fun x hx => ?_⟩
  simp at hx
  rw [hx]
  rfl
theorem root_zz : rootV [z32, z32] 1 = .tuple #[.string s64, .int .i64 0] := by
  rw [rootV, if_pos rt_zz, ← hs_zz]
  rfl
theorem br_zz {e : Ending} {w' : World} (h : BrR [z32, z32] 1 1 e w') : ∃ a c, e = .returned (.tuple #[.slice a 1 c, .int .i64 0]) ∧ slS w'.heap.size w' a [z32] := by
  unfold BrR at h
  rw [if_pos (by unfold brOk; rw [rt_zz]; decide)] at h
  obtain ⟨a, c, h1, _, h2⟩ := h
  exact ⟨a, c, h1, h2⟩
theorem ck_yes : chk z32 [z32] 1 s64 = true := by
  refine decide_eq_true ⟨by decide, by decide, rfl, rfl, fun x hx => ?_, ?_⟩
  · simp at hx
    rw [hx]
    rfl
  · show (if 1 / 2 ^ 0 % 2 = 0 then hs z32 z32 else hs z32 z32) = s64
    rw [if_neg (by decide), hs_zz]
theorem ck_no : chk s64 [z32] 1 s64 = false := by
  refine decide_eq_false fun h => ?_
  have h2 : (if 1 / 2 ^ 0 % 2 = 0 then hs s64 z32 else hs z32 s64) = s64 := h.2.2.2.2.2
  rw [if_neg (by decide)] at h2
  unfold hs at h2
  rw [z96, t96_sum] at h2
  exact absurd h2 (by decide +kernel)
/-- What holds while a statement runs. -/
structure ShK (V : World) (a' : Option Addr) (b o c c' : Nat) (S zz : ByteArray) (Q : Nat → Bool) (x0 x35 x36 x37 x38 x39 x40 x41 x42 x43 x44 x45 x46 x47 x48 x49 x50 x51 x52 x53 x54 x55 x56 x57 x58 x59 : Value) (W : World) : Prop where
  e : Below V.heap.size V W
  f0 : Q 0 = true → x35 = Value.string S
  f1 : Q 1 = true → x36 = Value.slice (some ⟨b, o, none⟩) 2 c
  f2 : Q 2 = true → x37 = Value.pointer (some ⟨b, o, none⟩)
  f3 : Q 3 = true → x38 = Value.string zz
  f4 : Q 4 = true → x39 = Value.slice (some ⟨b, o, none⟩) 2 c
  f5 : Q 5 = true → x40 = Value.pointer (some ⟨b, o + 1, none⟩)
  f6 : Q 6 = true → x41 = Value.string zz
  f7 : Q 7 = true → ∃ g, x42 = .slice (some ⟨g, 0, none⟩) 2 2 ∧ V.heap.size ≤ g ∧ g < W.heap.size ∧ W.heap[g]? = some (.cells #[.string zz, .string zz] 9 (0, 0))
  f8 : Q 8 = true → x43 = Value.string S
  f9 : Q 9 = true → x44 = Value.bool true
  f10 : Q 10 = true → x45 = Value.bool true
  f11 : Q 11 = true → x46 = Value.slice (some ⟨b, o, none⟩) 2 c
  f12 : Q 12 = true → x47 = Value.pointer (some ⟨b, o + 1, none⟩)
  f13 : Q 13 = true → x48 = Value.string zz
  f14 : Q 14 = true → x49 = Value.slice a' 1 c'
  f15 : Q 15 = true → x50 = Value.string S
  f16 : Q 16 = true → x51 = Value.bool true
  f17 : Q 17 = true → x52 = Value.bool true
  f18 : Q 18 = true → x53 = Value.bool true
  f19 : Q 19 = true → x54 = Value.string S
  f20 : Q 20 = true → x55 = Value.slice a' 1 c'
  f21 : Q 21 = true → x56 = Value.string S
  f22 : Q 22 = true → x57 = Value.bool false
  f23 : Q 23 = true → x58 = Value.bool true
  f24 : Q 24 = true → x59 = Value.bool true
  f25 : Q 25 = true → x0 = Value.bool true
theorem ShK.grow {V : World} {a' : Option Addr} {b o c c' : Nat} {S zz : ByteArray} {Q : Nat → Bool} {x0 x35 x36 x37 x38 x39 x40 x41 x42 x43 x44 x45 x46 x47 x48 x49 x50 x51 x52 x53 x54 x55 x56 x57 x58 x59 : Value} {W W' : World} (h : ShK V a' b o c c' S zz Q x0 x35 x36 x37 x38 x39 x40 x41 x42 x43 x44 x45 x46 x47 x48 x49 x50 x51 x52 x53 x54 x55 x56 x57 x58 x59 W) (hb : Below W.heap.size W W') : ShK V a' b o c c' S zz Q x0 x35 x36 x37 x38 x39 x40 x41 x42 x43 x44 x45 x46 x47 x48 x49 x50 x51 x52 x53 x54 x55 x56 x57 x58 x59 W' :=
  ⟨belowStep h.e h.e.size hb, h.f0, h.f1, h.f2, h.f3, h.f4, h.f5, h.f6, fun s => (h.f7 s).imp fun _ ⟨j1, j0, j2, j3⟩ => ⟨j1, j0, Nat.lt_of_lt_of_le j2 hb.size, (hb.block _ j2).trans j3⟩, h.f8, h.f9, h.f10, h.f11, h.f12, h.f13, h.f14, h.f15, h.f16, h.f17, h.f18, h.f19, h.f20, h.f21, h.f22, h.f23, h.f24, h.f25⟩

set_option maxRecDepth 20000 in
set_option maxHeartbeats 4000000 in
theorem shown8_any (w : World) (hl : Laid w) :
    Calls Tryd.prog 5 #[] w fun e w' => e = .returned (.bool true) ∧ Below w.heap.size w w' := by
  obtain ⟨i0, hi0, hz0, hz1, hz2⟩ := info_parts info_u8'
  have hrz := root_zz
  have hcy := ck_yes
  have hcn := ck_no
  have hzz : sumOf (z32 ++ z32) = s64 := hs_zz
  obtain ⟨S, hS⟩ : ∃ S, s64 = S := ⟨_, rfl⟩
  rw [hS] at hrz hcy hcn hzz
  have HZ0 : Hid (_ ∧ _ ∧ _) := ⟨hcy, hcn, hzz⟩
  clear hS hcy hcn hzz
  have KP : Hid (∀ w : World, _) := fun w : World => pack_any (zs 33) (by rw [zs_size]; decide) w
  rw [pk33] at KP
  go_enter Tryd.func5, Tryd.ntmps5
  go_wp2_with (at_make; refine wpList_make_full _ rfl _ _ 28 rfl w.heap.size 5 i0 _ 1 Tryd.underlying28 hi0 hz0 hz1 .i64 .i64 _ _ 33 rfl rfl rfl rfl (by rw [hz2]; omega) (by unfold maxLen; omega) (Nat.le_refl _) ?_; intro w1 hown hgr)
  have hcv := run_convert_bytes_back (P := Tryd.prog) w1 28 9 5 ⟨w.heap.size, 0, none⟩ 33 (by8 33 fun _ => 0) Tryd.underlying28 Tryd.underlying5 Tryd.underlying9 (fun j hj => by
    rw [by8_at _ _ (fun _ => ⟨by decide, by decide⟩)]
    rw [by8_len] at hj
    exact hown.cells (g := w.heap.size) rfl j _ (by simp [madeCells, hj, Value.cells, Nat.mod_one]))
  rw [by8_len] at hcv
  have B1 : Below w.heap.size w w1 := (Below.refl _ w).grown hgr (Nat.le_refl _) (fun _ e => by cases e)
  clear hown hgr
  rw [hcv]
  go_wp2_with fail
  refine (KP.out _).mono ?_
  rintro e w2 ⟨a, c, rfl, hc2, hs2, B2⟩
  have BW2 := belowStep B1 B1.size B2
  have L2' := hl.below BW2
  clear B1 B2 KP hcv hc2
  have KR := root_any [z32, z32] 1 a c w2.heap.size w2 L2' (Nat.le_refl _) hs2
  rw [hrz] at KR
  go_wp2_with fail
  refine KR.mono ?_
  rintro e w3 ⟨rfl, B3⟩
  have BW3 := belowStep BW2 BW2.size B3
  have L3' := hl.below BW3
  have hs3 := slS_below B3 hs2
  have hw23 := B3.size
  clear KR B3
  have KB := branch_any [z32, z32] 1 1 a c w2.heap.size w3 L3' hw23 hs3
  go_wp2_with fail
  refine KB.mono ?_
  rintro e w4 ⟨hbr, B4⟩
  obtain ⟨a', c', rfl, hs4⟩ := br_zz hbr
  have BW4 := belowStep BW3 BW3.size B4
  have L4' := hl.below BW4
  have hsl := slS_below (B4.mono hw23) hs3
  have hw24 : w2.heap.size ≤ w4.heap.size := Nat.le_trans hw23 B4.size
  clear KB B4 hbr
  obtain ⟨b, o, rfl, hb, c0⟩ := slS_at hsl 0 z32 rfl
  obtain ⟨b', o', hbo, -, c1⟩ := slS_at hsl 1 z32 rfl
  obtain ⟨rfl, rfl⟩ : b = b' ∧ o = o' := by cases hbo; exact ⟨rfl, rfl⟩
  rw [Nat.add_zero] at c0
  have hb4 : b < w4.heap.size := by omega
  have KK1 : ∀ W : World, Below w4.heap.size w4 W → _ := fun W hB => check_any z32 [z32] 1 (by decide) S a' c' w4.heap.size W (L4'.below hB) hB.size (slS_below hB hs4)
  have KK2 : ∀ W : World, Below w4.heap.size w4 W → _ := fun W hB => check_any S [z32] 1 (by decide) S a' c' w4.heap.size W (L4'.below hB) hB.size (slS_below hB hs4)
  have KS : ∀ (g : Nat) (W : World), Below w4.heap.size w4 W → _ := fun (g : Nat) (W : World) (hB : Below w4.heap.size w4 W) (hg : g < W.heap.size) h0 h1 => sum_two z32 z32 _ (join_pair _ _) (by decide) (by decide) g W (L4'.below hB) hg h0 h1
  rw [HZ0.out.1] at KK1
  rw [HZ0.out.2.1] at KK2
  rw [HZ0.out.2.2] at KS
  obtain ⟨zz, hzz⟩ : ∃ z, z32 = z := ⟨_, rfl⟩
  rw [hzz] at KK1 KS c0 c1
  have HK : Hid (_ ∧ _ ∧ _) := ⟨KK1, KK2, KS⟩
  clear KK1 KK2 KS hzz
  go_wp2_with fail
  refine region_inv (fun Q aa W => ∃ x0 x35 x36 x37 x38 x39 x40 x41 x42 x43 x44 x45 x46 x47 x48 x49 x50 x51 x52 x53 x54 x55 x56 x57 x58 x59 : Value, aa = { tmps := #[x0, Value.slice (some { block := b, off := o }) 2 c, Value.string S, Value.int IntKind.i64 0, Value.slice a' 1 c', Value.int IntKind.i64 0, Value.slice (some { block := w.heap.size, off := 0 }) 33 33, Value.string { data := (by8 33 fun x => 0).toArray }, Value.slice (some { block := b, off := o }) 2 c, Value.tuple #[Value.string S, Value.int IntKind.i64 0], Value.slice (some { block := b, off := o }) 2 c, Value.tuple #[Value.string S, Value.int IntKind.i64 0], Value.string S, Value.int IntKind.i64 0, Value.tuple #[Value.slice a' 1 c', Value.int IntKind.i64 0], Value.slice (some { block := b, off := o }) 2 c, Value.tuple #[Value.slice a' 1 c', Value.int IntKind.i64 0], Value.slice a' 1 c', Value.int IntKind.i64 0, Value.int IntKind.i64 0, Value.bool false, Value.bool false, Value.int IntKind.i64 0, Value.bool false, Value.bool false, Value.bool false, Value.slice (some { block := b, off := o }) 2 c, Value.int IntKind.i64 2, Value.bool false, Value.bool false, Value.bool false, Value.slice a' 1 c', Value.int IntKind.i64 1, Value.bool false, Value.bool false, x35, x36, x37, x38, x39, x40, x41, x42, x43, x44, x45, x46, x47, x48, x49, x50, x51, x52, x53, x54, x55, x56, x57, x58, x59], defers := [] } ∧ ShK w4 a' b o c c' S zz Q x0 x35 x36 x37 x38 x39 x40 x41 x42 x43 x44 x45 x46 x47 x48 x49 x50 x51 x52 x53 x54 x55 x56 x57 x58 x59 W) (by kernel_rfl) (by kernel_rfl) ?_ ?_ ?_
  · exact ⟨Value.bool false, undef, undef, undef, undef, undef, undef, undef, undef, undef, undef, undef, undef, undef, undef, undef, undef, undef, undef, undef, undef, undef, undef, undef, undef, undef, rfl, ⟨(Below.refl _ w4).drew, nofun, nofun, nofun, nofun, nofun, nofun, nofun, nofun, nofun, nofun, nofun, nofun, nofun, nofun, nofun, nofun, nofun, nofun, nofun, nofun, nofun, nofun, nofun, nofun, nofun, nofun⟩⟩
  · intro i oo Q aa W hi hun hJ hall K hK
    obtain ⟨x0, x35, x36, x37, x38, x39, x40, x41, x42, x43, x44, x45, x46, x47, x48, x49, x50, x51, x52, x53, x54, x55, x56, x57, x58, x59, rfl, h⟩ := hJ
    have hlt : i < 26 := (List.getElem?_eq_some_iff.1 hi).1
    have hcase : i = 0 ∨ i = 1 ∨ i = 2 ∨ i = 3 ∨ i = 4 ∨ i = 5 ∨ i = 6 ∨ i = 7 ∨ i = 8 ∨ i = 9 ∨ i = 10 ∨ i = 11 ∨ i = 12 ∨ i = 13 ∨ i = 14 ∨ i = 15 ∨ i = 16 ∨ i = 17 ∨ i = 18 ∨ i = 19 ∨ i = 20 ∨ i = 21 ∨ i = 22 ∨ i = 23 ∨ i = 24 ∨ i = 25 := by omega
    rcases hcase with rfl | rfl | rfl | rfl | rfl | rfl | rfl | rfl | rfl | rfl | rfl | rfl | rfl | rfl | rfl | rfl | rfl | rfl | rfl | rfl | rfl | rfl | rfl | rfl | rfl | rfl
    all_goals (have ho := (Option.some.inj hi).symm; subst ho; clear hi hlt)
    · go_simp
      exact hK _ _ ⟨x0, _, x36, x37, x38, x39, x40, x41, x42, x43, x44, x45, x46, x47, x48, x49, x50, x51, x52, x53, x54, x55, x56, x57, x58, x59, rfl, ⟨h.e, fun _ => rfl, h.f1, h.f2, h.f3, h.f4, h.f5, h.f6, h.f7, h.f8, h.f9, h.f10, h.f11, h.f12, h.f13, h.f14, h.f15, h.f16, h.f17, h.f18, h.f19, h.f20, h.f21, h.f22, h.f23, h.f24, h.f25⟩⟩
    · go_simp
      exact hK _ _ ⟨x0, x35, _, x37, x38, x39, x40, x41, x42, x43, x44, x45, x46, x47, x48, x49, x50, x51, x52, x53, x54, x55, x56, x57, x58, x59, rfl, ⟨h.e, h.f0, fun _ => rfl, h.f2, h.f3, h.f4, h.f5, h.f6, h.f7, h.f8, h.f9, h.f10, h.f11, h.f12, h.f13, h.f14, h.f15, h.f16, h.f17, h.f18, h.f19, h.f20, h.f21, h.f22, h.f23, h.f24, h.f25⟩⟩
    · have s_1 : Q 1 = true := hall ⟨1, .data⟩ (by simp) rfl
      obtain rfl := h.f1 s_1
      go_simp
      exact hK _ _ ⟨x0, x35, _, _, x38, x39, x40, x41, x42, x43, x44, x45, x46, x47, x48, x49, x50, x51, x52, x53, x54, x55, x56, x57, x58, x59, rfl, ⟨h.e, h.f0, h.f1, fun _ => rfl, h.f3, h.f4, h.f5, h.f6, h.f7, h.f8, h.f9, h.f10, h.f11, h.f12, h.f13, h.f14, h.f15, h.f16, h.f17, h.f18, h.f19, h.f20, h.f21, h.f22, h.f23, h.f24, h.f25⟩⟩
    · have s_2 : Q 2 = true := hall ⟨2, .data⟩ (by simp) rfl
      obtain rfl := h.f2 s_2
      have cW := (h.e.cell (p := ⟨b, o, none⟩) hb4).trans c0
      go_simp
      exact hK _ _ ⟨x0, x35, x36, _, _, x39, x40, x41, x42, x43, x44, x45, x46, x47, x48, x49, x50, x51, x52, x53, x54, x55, x56, x57, x58, x59, rfl, ⟨h.e, h.f0, h.f1, h.f2, fun _ => rfl, h.f4, h.f5, h.f6, h.f7, h.f8, h.f9, h.f10, h.f11, h.f12, h.f13, h.f14, h.f15, h.f16, h.f17, h.f18, h.f19, h.f20, h.f21, h.f22, h.f23, h.f24, h.f25⟩⟩
    · go_simp
      exact hK _ _ ⟨x0, x35, x36, x37, x38, _, x40, x41, x42, x43, x44, x45, x46, x47, x48, x49, x50, x51, x52, x53, x54, x55, x56, x57, x58, x59, rfl, ⟨h.e, h.f0, h.f1, h.f2, h.f3, fun _ => rfl, h.f5, h.f6, h.f7, h.f8, h.f9, h.f10, h.f11, h.f12, h.f13, h.f14, h.f15, h.f16, h.f17, h.f18, h.f19, h.f20, h.f21, h.f22, h.f23, h.f24, h.f25⟩⟩
    · have s_4 : Q 4 = true := hall ⟨4, .data⟩ (by simp) rfl
      obtain rfl := h.f4 s_4
      go_simp
      exact hK _ _ ⟨x0, x35, x36, x37, x38, _, _, x41, x42, x43, x44, x45, x46, x47, x48, x49, x50, x51, x52, x53, x54, x55, x56, x57, x58, x59, rfl, ⟨h.e, h.f0, h.f1, h.f2, h.f3, h.f4, fun _ => rfl, h.f6, h.f7, h.f8, h.f9, h.f10, h.f11, h.f12, h.f13, h.f14, h.f15, h.f16, h.f17, h.f18, h.f19, h.f20, h.f21, h.f22, h.f23, h.f24, h.f25⟩⟩
    · have s_5 : Q 5 = true := hall ⟨5, .data⟩ (by simp) rfl
      obtain rfl := h.f5 s_5
      have cW := (h.e.cell (p := ⟨b, o + 1, none⟩) hb4).trans c1
      go_simp
      exact hK _ _ ⟨x0, x35, x36, x37, x38, x39, _, _, x42, x43, x44, x45, x46, x47, x48, x49, x50, x51, x52, x53, x54, x55, x56, x57, x58, x59, rfl, ⟨h.e, h.f0, h.f1, h.f2, h.f3, h.f4, h.f5, fun _ => rfl, h.f7, h.f8, h.f9, h.f10, h.f11, h.f12, h.f13, h.f14, h.f15, h.f16, h.f17, h.f18, h.f19, h.f20, h.f21, h.f22, h.f23, h.f24, h.f25⟩⟩
    · have s_3 : Q 3 = true := hall ⟨3, .data⟩ (by simp) rfl
      obtain rfl := h.f3 s_3
      have s_6 : Q 6 = true := hall ⟨6, .data⟩ (by simp) rfl
      obtain rfl := h.f6 s_6
      go_simp
      have h1 := h.grow ((Below.refl _ W).alloc (Nat.le_refl _) (.cells #[.string zz, .string zz] 9))
      exact hK _ _ ⟨x0, x35, x36, x37, _, x39, x40, _, _, x43, x44, x45, x46, x47, x48, x49, x50, x51, x52, x53, x54, x55, x56, x57, x58, x59, rfl, ⟨h1.e, h1.f0, h1.f1, h1.f2, h1.f3, h1.f4, h1.f5, h1.f6, fun _ => ⟨W.heap.size, rfl, h.e.size, by simp, World.alloc_heap_new W _⟩, h1.f8, h1.f9, h1.f10, h1.f11, h1.f12, h1.f13, h1.f14, h1.f15, h1.f16, h1.f17, h1.f18, h1.f19, h1.f20, h1.f21, h1.f22, h1.f23, h1.f24, h1.f25⟩⟩
    · have s_7 : Q 7 = true := hall ⟨7, .data⟩ (by simp) rfl
      obtain ⟨g7, rfl, hg7, hh7, hc7⟩ := h.f7 s_7
      go_simp
      refine (HK.out.2.2 g7 W h.e hh7 (by rw [Lib.cell_of_heap hc7]; rfl) (by rw [Lib.cell_of_heap hc7]; rfl)).mono ?_
      rintro e w5 ⟨rfl, hb5⟩
      have h1 := h.grow hb5
      go_simp
      exact hK _ _ ⟨x0, x35, x36, x37, x38, x39, x40, x41, _, _, x44, x45, x46, x47, x48, x49, x50, x51, x52, x53, x54, x55, x56, x57, x58, x59, rfl, ⟨h1.e, h1.f0, h1.f1, h1.f2, h1.f3, h1.f4, h1.f5, h1.f6, h1.f7, fun _ => rfl, h1.f9, h1.f10, h1.f11, h1.f12, h1.f13, h1.f14, h1.f15, h1.f16, h1.f17, h1.f18, h1.f19, h1.f20, h1.f21, h1.f22, h1.f23, h1.f24, h1.f25⟩⟩
    · have s_0 : Q 0 = true := hall ⟨0, .data⟩ (by simp) rfl
      obtain rfl := h.f0 s_0
      have s_8 : Q 8 = true := hall ⟨8, .data⟩ (by simp) rfl
      obtain rfl := h.f8 s_8
      go_simp
      exact hK _ _ ⟨x0, _, x36, x37, x38, x39, x40, x41, x42, _, _, x45, x46, x47, x48, x49, x50, x51, x52, x53, x54, x55, x56, x57, x58, x59, rfl, ⟨h.e, h.f0, h.f1, h.f2, h.f3, h.f4, h.f5, h.f6, h.f7, h.f8, fun _ => rfl, h.f10, h.f11, h.f12, h.f13, h.f14, h.f15, h.f16, h.f17, h.f18, h.f19, h.f20, h.f21, h.f22, h.f23, h.f24, h.f25⟩⟩
    · have s_9 : Q 9 = true := hall ⟨9, .data⟩ (by simp) rfl
      obtain rfl := h.f9 s_9
      go_simp
      exact hK _ _ ⟨x0, x35, x36, x37, x38, x39, x40, x41, x42, x43, _, _, x46, x47, x48, x49, x50, x51, x52, x53, x54, x55, x56, x57, x58, x59, rfl, ⟨h.e, h.f0, h.f1, h.f2, h.f3, h.f4, h.f5, h.f6, h.f7, h.f8, h.f9, fun _ => rfl, h.f11, h.f12, h.f13, h.f14, h.f15, h.f16, h.f17, h.f18, h.f19, h.f20, h.f21, h.f22, h.f23, h.f24, h.f25⟩⟩
    · have s_10 : Q 10 = true := hall ⟨10, .guard⟩ (by simp) rfl
      obtain rfl := h.f10 s_10
      go_simp
      exact hK _ _ ⟨x0, x35, x36, x37, x38, x39, x40, x41, x42, x43, x44, _, _, x47, x48, x49, x50, x51, x52, x53, x54, x55, x56, x57, x58, x59, rfl, ⟨h.e, h.f0, h.f1, h.f2, h.f3, h.f4, h.f5, h.f6, h.f7, h.f8, h.f9, h.f10, fun _ => rfl, h.f12, h.f13, h.f14, h.f15, h.f16, h.f17, h.f18, h.f19, h.f20, h.f21, h.f22, h.f23, h.f24, h.f25⟩⟩
    · have s_11 : Q 11 = true := hall ⟨11, .data⟩ (by simp) rfl
      obtain rfl := h.f11 s_11
      have s_10 : Q 10 = true := hall ⟨10, .guard⟩ (by simp) rfl
      obtain rfl := h.f10 s_10
      go_simp
      exact hK _ _ ⟨x0, x35, x36, x37, x38, x39, x40, x41, x42, x43, x44, _, _, _, x48, x49, x50, x51, x52, x53, x54, x55, x56, x57, x58, x59, rfl, ⟨h.e, h.f0, h.f1, h.f2, h.f3, h.f4, h.f5, h.f6, h.f7, h.f8, h.f9, h.f10, h.f11, fun _ => rfl, h.f13, h.f14, h.f15, h.f16, h.f17, h.f18, h.f19, h.f20, h.f21, h.f22, h.f23, h.f24, h.f25⟩⟩
    · have s_12 : Q 12 = true := hall ⟨12, .data⟩ (by simp) rfl
      obtain rfl := h.f12 s_12
      have s_10 : Q 10 = true := hall ⟨10, .guard⟩ (by simp) rfl
      obtain rfl := h.f10 s_10
      have cW := (h.e.cell (p := ⟨b, o + 1, none⟩) hb4).trans c1
      go_simp
      exact hK _ _ ⟨x0, x35, x36, x37, x38, x39, x40, x41, x42, x43, x44, _, x46, _, _, x49, x50, x51, x52, x53, x54, x55, x56, x57, x58, x59, rfl, ⟨h.e, h.f0, h.f1, h.f2, h.f3, h.f4, h.f5, h.f6, h.f7, h.f8, h.f9, h.f10, h.f11, h.f12, fun _ => rfl, h.f14, h.f15, h.f16, h.f17, h.f18, h.f19, h.f20, h.f21, h.f22, h.f23, h.f24, h.f25⟩⟩
    · have s_10 : Q 10 = true := hall ⟨10, .guard⟩ (by simp) rfl
      obtain rfl := h.f10 s_10
      go_simp
      exact hK _ _ ⟨x0, x35, x36, x37, x38, x39, x40, x41, x42, x43, x44, _, x46, x47, x48, _, x50, x51, x52, x53, x54, x55, x56, x57, x58, x59, rfl, ⟨h.e, h.f0, h.f1, h.f2, h.f3, h.f4, h.f5, h.f6, h.f7, h.f8, h.f9, h.f10, h.f11, h.f12, h.f13, fun _ => rfl, h.f15, h.f16, h.f17, h.f18, h.f19, h.f20, h.f21, h.f22, h.f23, h.f24, h.f25⟩⟩
    · have s_10 : Q 10 = true := hall ⟨10, .guard⟩ (by simp) rfl
      obtain rfl := h.f10 s_10
      go_simp
      exact hK _ _ ⟨x0, x35, x36, x37, x38, x39, x40, x41, x42, x43, x44, _, x46, x47, x48, x49, _, x51, x52, x53, x54, x55, x56, x57, x58, x59, rfl, ⟨h.e, h.f0, h.f1, h.f2, h.f3, h.f4, h.f5, h.f6, h.f7, h.f8, h.f9, h.f10, h.f11, h.f12, h.f13, h.f14, fun _ => rfl, h.f16, h.f17, h.f18, h.f19, h.f20, h.f21, h.f22, h.f23, h.f24, h.f25⟩⟩
    · have s_13 : Q 13 = true := hall ⟨13, .data⟩ (by simp) rfl
      obtain rfl := h.f13 s_13
      have s_14 : Q 14 = true := hall ⟨14, .data⟩ (by simp) rfl
      obtain rfl := h.f14 s_14
      have s_15 : Q 15 = true := hall ⟨15, .data⟩ (by simp) rfl
      obtain rfl := h.f15 s_15
      have s_10 : Q 10 = true := hall ⟨10, .guard⟩ (by simp) rfl
      obtain rfl := h.f10 s_10
      go_simp
      refine (HK.out.1 W h.e).mono ?_
      rintro e w5 ⟨rfl, hb5⟩
      have h1 := h.grow hb5
      go_simp
      exact hK _ _ ⟨x0, x35, x36, x37, x38, x39, x40, x41, x42, x43, x44, _, x46, x47, _, _, _, _, x52, x53, x54, x55, x56, x57, x58, x59, rfl, ⟨h1.e, h1.f0, h1.f1, h1.f2, h1.f3, h1.f4, h1.f5, h1.f6, h1.f7, h1.f8, h1.f9, h1.f10, h1.f11, h1.f12, h1.f13, h1.f14, h1.f15, fun _ => rfl, h1.f17, h1.f18, h1.f19, h1.f20, h1.f21, h1.f22, h1.f23, h1.f24, h1.f25⟩⟩
    · have s_10 : Q 10 = true := hall ⟨10, .data⟩ (by simp) rfl
      obtain rfl := h.f10 s_10
      have s_16 : Q 16 = true := hall ⟨16, .data⟩ (by simp) rfl
      obtain rfl := h.f16 s_16
      go_simp
      exact hK _ _ ⟨x0, x35, x36, x37, x38, x39, x40, x41, x42, x43, x44, _, x46, x47, x48, x49, x50, _, _, x53, x54, x55, x56, x57, x58, x59, rfl, ⟨h.e, h.f0, h.f1, h.f2, h.f3, h.f4, h.f5, h.f6, h.f7, h.f8, h.f9, h.f10, h.f11, h.f12, h.f13, h.f14, h.f15, h.f16, fun _ => rfl, h.f18, h.f19, h.f20, h.f21, h.f22, h.f23, h.f24, h.f25⟩⟩
    · have s_17 : Q 17 = true := hall ⟨17, .data⟩ (by simp) rfl
      obtain rfl := h.f17 s_17
      go_simp
      exact hK _ _ ⟨x0, x35, x36, x37, x38, x39, x40, x41, x42, x43, x44, x45, x46, x47, x48, x49, x50, x51, _, _, x54, x55, x56, x57, x58, x59, rfl, ⟨h.e, h.f0, h.f1, h.f2, h.f3, h.f4, h.f5, h.f6, h.f7, h.f8, h.f9, h.f10, h.f11, h.f12, h.f13, h.f14, h.f15, h.f16, h.f17, fun _ => rfl, h.f19, h.f20, h.f21, h.f22, h.f23, h.f24, h.f25⟩⟩
    · have s_18 : Q 18 = true := hall ⟨18, .guard⟩ (by simp) rfl
      obtain rfl := h.f18 s_18
      go_simp
      exact hK _ _ ⟨x0, x35, x36, x37, x38, x39, x40, x41, x42, x43, x44, x45, x46, x47, x48, x49, x50, x51, x52, _, _, x55, x56, x57, x58, x59, rfl, ⟨h.e, h.f0, h.f1, h.f2, h.f3, h.f4, h.f5, h.f6, h.f7, h.f8, h.f9, h.f10, h.f11, h.f12, h.f13, h.f14, h.f15, h.f16, h.f17, h.f18, fun _ => rfl, h.f20, h.f21, h.f22, h.f23, h.f24, h.f25⟩⟩
    · have s_18 : Q 18 = true := hall ⟨18, .guard⟩ (by simp) rfl
      obtain rfl := h.f18 s_18
      go_simp
      exact hK _ _ ⟨x0, x35, x36, x37, x38, x39, x40, x41, x42, x43, x44, x45, x46, x47, x48, x49, x50, x51, x52, _, x54, _, x56, x57, x58, x59, rfl, ⟨h.e, h.f0, h.f1, h.f2, h.f3, h.f4, h.f5, h.f6, h.f7, h.f8, h.f9, h.f10, h.f11, h.f12, h.f13, h.f14, h.f15, h.f16, h.f17, h.f18, h.f19, fun _ => rfl, h.f21, h.f22, h.f23, h.f24, h.f25⟩⟩
    · have s_18 : Q 18 = true := hall ⟨18, .guard⟩ (by simp) rfl
      obtain rfl := h.f18 s_18
      go_simp
      exact hK _ _ ⟨x0, x35, x36, x37, x38, x39, x40, x41, x42, x43, x44, x45, x46, x47, x48, x49, x50, x51, x52, _, x54, x55, _, x57, x58, x59, rfl, ⟨h.e, h.f0, h.f1, h.f2, h.f3, h.f4, h.f5, h.f6, h.f7, h.f8, h.f9, h.f10, h.f11, h.f12, h.f13, h.f14, h.f15, h.f16, h.f17, h.f18, h.f19, h.f20, fun _ => rfl, h.f22, h.f23, h.f24, h.f25⟩⟩
    · have s_19 : Q 19 = true := hall ⟨19, .data⟩ (by simp) rfl
      obtain rfl := h.f19 s_19
      have s_20 : Q 20 = true := hall ⟨20, .data⟩ (by simp) rfl
      obtain rfl := h.f20 s_20
      have s_21 : Q 21 = true := hall ⟨21, .data⟩ (by simp) rfl
      obtain rfl := h.f21 s_21
      have s_18 : Q 18 = true := hall ⟨18, .guard⟩ (by simp) rfl
      obtain rfl := h.f18 s_18
      go_simp
      refine (HK.out.2.1 W h.e).mono ?_
      rintro e w5 ⟨rfl, hb5⟩
      have h1 := h.grow hb5
      go_simp
      exact hK _ _ ⟨x0, x35, x36, x37, x38, x39, x40, x41, x42, x43, x44, x45, x46, x47, x48, x49, x50, x51, x52, _, _, _, _, _, x58, x59, rfl, ⟨h1.e, h1.f0, h1.f1, h1.f2, h1.f3, h1.f4, h1.f5, h1.f6, h1.f7, h1.f8, h1.f9, h1.f10, h1.f11, h1.f12, h1.f13, h1.f14, h1.f15, h1.f16, h1.f17, h1.f18, h1.f19, h1.f20, h1.f21, fun _ => rfl, h1.f23, h1.f24, h1.f25⟩⟩
    · have s_22 : Q 22 = true := hall ⟨22, .data⟩ (by simp) rfl
      obtain rfl := h.f22 s_22
      have s_18 : Q 18 = true := hall ⟨18, .guard⟩ (by simp) rfl
      obtain rfl := h.f18 s_18
      go_simp
      exact hK _ _ ⟨x0, x35, x36, x37, x38, x39, x40, x41, x42, x43, x44, x45, x46, x47, x48, x49, x50, x51, x52, _, x54, x55, x56, _, _, x59, rfl, ⟨h.e, h.f0, h.f1, h.f2, h.f3, h.f4, h.f5, h.f6, h.f7, h.f8, h.f9, h.f10, h.f11, h.f12, h.f13, h.f14, h.f15, h.f16, h.f17, h.f18, h.f19, h.f20, h.f21, h.f22, fun _ => rfl, h.f24, h.f25⟩⟩
    · have s_18 : Q 18 = true := hall ⟨18, .data⟩ (by simp) rfl
      obtain rfl := h.f18 s_18
      have s_23 : Q 23 = true := hall ⟨23, .data⟩ (by simp) rfl
      obtain rfl := h.f23 s_23
      go_simp
      exact hK _ _ ⟨x0, x35, x36, x37, x38, x39, x40, x41, x42, x43, x44, x45, x46, x47, x48, x49, x50, x51, x52, _, x54, x55, x56, x57, _, _, rfl, ⟨h.e, h.f0, h.f1, h.f2, h.f3, h.f4, h.f5, h.f6, h.f7, h.f8, h.f9, h.f10, h.f11, h.f12, h.f13, h.f14, h.f15, h.f16, h.f17, h.f18, h.f19, h.f20, h.f21, h.f22, h.f23, fun _ => rfl, h.f25⟩⟩
    · have s_24 : Q 24 = true := hall ⟨24, .data⟩ (by simp) rfl
      obtain rfl := h.f24 s_24
      go_simp
      exact hK _ _ ⟨_, x35, x36, x37, x38, x39, x40, x41, x42, x43, x44, x45, x46, x47, x48, x49, x50, x51, x52, x53, x54, x55, x56, x57, x58, _, rfl, ⟨h.e, h.f0, h.f1, h.f2, h.f3, h.f4, h.f5, h.f6, h.f7, h.f8, h.f9, h.f10, h.f11, h.f12, h.f13, h.f14, h.f15, h.f16, h.f17, h.f18, h.f19, h.f20, h.f21, h.f22, h.f23, h.f24, fun _ => rfl⟩⟩
  · rintro Q aa W hall ⟨x0, x35, x36, x37, x38, x39, x40, x41, x42, x43, x44, x45, x46, x47, x48, x49, x50, x51, x52, x53, x54, x55, x56, x57, x58, x59, rfl, h⟩
    obtain rfl := h.f0 (hall 0 (by decide))
    obtain rfl := h.f1 (hall 1 (by decide))
    obtain rfl := h.f2 (hall 2 (by decide))
    obtain rfl := h.f3 (hall 3 (by decide))
    obtain rfl := h.f4 (hall 4 (by decide))
    obtain rfl := h.f5 (hall 5 (by decide))
    obtain rfl := h.f6 (hall 6 (by decide))
    obtain ⟨g7, rfl, hg7, hh7, hc7⟩ := h.f7 (hall 7 (by decide))
    obtain rfl := h.f8 (hall 8 (by decide))
    obtain rfl := h.f9 (hall 9 (by decide))
    obtain rfl := h.f10 (hall 10 (by decide))
    obtain rfl := h.f11 (hall 11 (by decide))
    obtain rfl := h.f12 (hall 12 (by decide))
    obtain rfl := h.f13 (hall 13 (by decide))
    obtain rfl := h.f14 (hall 14 (by decide))
    obtain rfl := h.f15 (hall 15 (by decide))
    obtain rfl := h.f16 (hall 16 (by decide))
    obtain rfl := h.f17 (hall 17 (by decide))
    obtain rfl := h.f18 (hall 18 (by decide))
    obtain rfl := h.f19 (hall 19 (by decide))
    obtain rfl := h.f20 (hall 20 (by decide))
    obtain rfl := h.f21 (hall 21 (by decide))
    obtain rfl := h.f22 (hall 22 (by decide))
    obtain rfl := h.f23 (hall 23 (by decide))
    obtain rfl := h.f24 (hall 24 (by decide))
    obtain rfl := h.f25 (hall 25 (by decide))
    have BW := h.e
    clear h hall
    have BWF := belowStep BW4 BW4.size BW
    clear BW
    go_wp2
    go_ret
    exact ⟨rfl, BWF⟩
end Go.Proofs.YtmemfdpfbeijeabDoor
