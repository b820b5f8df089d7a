/- Lemmas: The reference's roots of headers, and of what a block did. What is shown first: the root of a header, and of one that is none. -/
import Derived.Test.YtmefanagpkbjeabDoorM1
import Derived.Test.YtmefanagpkbjeabDoorM10
import Derived.Test.YtmefanagpkbjeabDoorM11
import Derived.Test.YtmefanagpkbjeabDoorM12
import Derived.Test.YtmefanagpkbjeabDoorM13
import Derived.Test.YtmefanagpkbjeabDoorM14
import Derived.Test.YtmefanagpkbjeabDoorM15
import Derived.Test.YtmefanagpkbjeabDoorM16
import Derived.Test.YtmefanagpkbjeabDoorM17
import Derived.Test.YtmefanagpkbjeabDoorM18
import Derived.Test.YtmefanagpkbjeabDoorM19
import Derived.Test.YtmefanagpkbjeabDoorM2
import Derived.Test.YtmefanagpkbjeabDoorM20
import Derived.Test.YtmefanagpkbjeabDoorM3
import Derived.Test.YtmefanagpkbjeabDoorM4
import Derived.Test.YtmefanagpkbjeabDoorM6
import Derived.Test.YtmefanagpkbjeabDoorM7
import Derived.Test.YtmefanagpkbjeabDoorM8
import Derived.Test.YtmefanagpkbjeabDoorM9
import Derived.Test.YtmefanagpkbjeabDoorRows
namespace Go.Proofs.YtmefanagpkbjeabDoor
open Go.RowKit Go.Shelf Go.Sort

def rvS (xs : List ByteArray) (d : Nat) : ByteArray := if rt8 xs d = true then lf (lvs xs) d 0 else ⟨#[]⟩
def rvE (xs : List ByteArray) (d : Nat) : Int := if rt8 xs d = true then 0 else 80
theorem rootV_eq (xs : List ByteArray) (d : Nat) : rootV xs d = .tuple #[.string (rvS xs d), .int .i64 (rvE xs d)] := by
  unfold rootV rvS rvE
  rw [Int.toNat_natCast]
  split <;> rfl
theorem slS_cells {W : World} {g : Nat} {xs : List ByteArray} (hg : W.heap[g]? = some (.cells (xs.map Value.string).toArray 9 (0, 0))) : slS (g + 1) W (some ⟨g, 0, none⟩) xs := .inr ⟨_, _, rfl, by omega, fun j x hj => by
  rw [Lib.cell_of_heap hg, Nat.zero_add]
  simp [hj]⟩
/-- What holds while a statement runs. -/
structure Mv_exec (V : World) (z : Nat) (v2 s : Int) (n0 v1 p t : ByteArray) (S : Nat → Bool) (x4 x5 x6 x7 x8 x9 x10 x11 x12 x13 x14 x15 x16 x17 : Value) (W : World) : Prop where
  e : Below V.heap.size V W
  f0 : S 0 = true → x7 = Value.pointer (some ⟨z, 0, none⟩)
  f1 : S 1 = true → x8 = Value.string p
  f2 : S 2 = true → x9 = Value.pointer (some ⟨z, 1, none⟩)
  f3 : S 3 = true → x10 = Value.string t
  f4 : S 4 = true → x11 = Value.pointer (some ⟨z, 2, none⟩)
  f5 : S 5 = true → x12 = Value.int .u64 s
  f6 : S 6 = true → x13 = Value.string n0
  f7 : S 7 = true → ∃ g, x14 = .slice (some ⟨g, 0, none⟩) 3 3 ∧ V.heap.size ≤ g ∧ g < W.heap.size ∧ W.heap[g]? = some (.cells #[.string p, .string t, .string n0] 9 (0, 0))
  f8 : S 8 = true → x15 = Value.tuple #[.string v1, .int .i64 v2]
  f9 : S 9 = true → x6 = Value.tuple #[.string v1, .int .i64 v2]
  f10 : S 10 = true → x16 = Value.string v1
  f11 : S 11 = true → x17 = Value.int .i64 v2
  f12 : S 12 = true → x4 = Value.string v1
  f13 : S 13 = true → x5 = Value.int .i64 v2
theorem Mv_exec.grow {V : World} {z : Nat} {v2 s : Int} {n0 v1 p t : ByteArray} {S : Nat → Bool} {x4 x5 x6 x7 x8 x9 x10 x11 x12 x13 x14 x15 x16 x17 : Value} {W W' : World} (h : Mv_exec V z v2 s n0 v1 p t S x4 x5 x6 x7 x8 x9 x10 x11 x12 x13 x14 x15 x16 x17 W) (hb : Below W.heap.size W W') : Mv_exec V z v2 s n0 v1 p t S x4 x5 x6 x7 x8 x9 x10 x11 x12 x13 x14 x15 x16 x17 W' :=
  ⟨belowStep h.e h.e.size hb, h.f0, h.f1, h.f2, h.f3, h.f4, h.f5, h.f6, fun s => (h.f7 s).imp fun _ ⟨j1, j0, j2, j3⟩ => ⟨j1, j0, Nat.lt_of_lt_of_le j2 hb.size, (hb.block _ j2).trans j3⟩, h.f8, h.f9, h.f10, h.f11, h.f12, h.f13⟩
set_option maxRecDepth 100000 in
set_option maxHeartbeats 4000000 in
theorem rxroot_any (p t : ByteArray) (s : Int) (w : World) :
    Calls Tryd.prog 6 #[.agg #[.string p, .string t, .int .u64 s]] w fun e w' => e = .returned (.tuple #[.string (rtS (exC p t s) 2), .int .i64 (rtE (exC p t s) 2)]) ∧ Below w.heap.size w w' := by
  have A0 : Below w.heap.size w (w.alloc (.cells #[.string p, .string t, .int .u64 s] 26)) := (Below.refl _ w).alloc (Nat.le_refl _) _
  have hx : (w.alloc (.cells #[.string p, .string t, .int .u64 s] 26)).heap[w.heap.size]? = some (.cells #[.string p, .string t, .int .u64 s] 26 (0, 0)) := World.alloc_heap_new w _
  obtain ⟨w1, hw1⟩ : ∃ W, w.alloc (.cells #[.string p, .string t, .int .u64 s] 26) = W := ⟨_, rfl⟩
  rw [hw1] at A0 hx
  obtain ⟨z, hz⟩ : ∃ z, w.heap.size = z := ⟨_, rfl⟩
  have HZ : Hid (w.heap.size = z) := hz
  have hzw : z < w1.heap.size := by rw [← hz]; exact (Array.getElem?_eq_some_iff.1 hx).1
  rw [hz] at A0 hx
  have KN0 : ∀ w : World, _ := fun w => z_rnumber_any s w
  obtain ⟨n0, hn0⟩ : ∃ x, z_numOf s = x := ⟨_, rfl⟩
  rw [hn0] at KN0
  have HH : Hid (exC p t s = [p, t, n0]) := by show _ = _; rw [← hn0]; rfl
  obtain ⟨xs, hxs⟩ : ∃ xs, exC p t s = xs := ⟨_, rfl⟩
  rw [hxs] at HH ⊢
  obtain ⟨v1, hv1⟩ : ∃ v, rvS xs 2 = v := ⟨_, rfl⟩
  obtain ⟨v2, hv2⟩ : ∃ v, rvE xs 2 = v := ⟨_, rfl⟩
  have HV : Hid (rvS xs 2 = v1 ∧ rvE xs 2 = v2) := ⟨hv1, hv2⟩
  have KR : ∀ (g : Nat) (W : World), W.heap[g]? = some (.cells #[.string p, .string t, .string n0] 9 (0, 0)) → Calls Tryd.prog 15 #[.slice (some ⟨g, 0, none⟩) 3 3, .int .i64 2] W fun e w' => e = .returned (.tuple #[.string v1, .int .i64 v2]) ∧ Below W.heap.size W w' := fun g W hg => by
    have := rroot_any [p, t, n0] ((2 : Nat) : Int) (some ⟨g, 0, none⟩) 3 (g + 1) W (Array.getElem?_eq_some_iff.1 hg).1 (slS_cells hg)
    rw [rootV_eq] at this
    rw [HH.out] at hv1 hv2
    rw [hv1, hv2] at this
    exact this
  have c0 : w1.cell? ⟨z, 0, none⟩ = some (.string p) := by rw [Lib.cell_of_heap hx]; rfl
  have c1 : w1.cell? ⟨z, 1, none⟩ = some (.string t) := by rw [Lib.cell_of_heap hx]; rfl
  have c2 : w1.cell? ⟨z, 2, none⟩ = some (.int .u64 s) := by rw [Lib.cell_of_heap hx]; rfl
  clear hx hn0 hv1 hv2 hxs
  go_enter Tryd.func6, Tryd.ntmps6
  go_wp2_with fail
  refine region_inv (fun S aa W => ∃ x4 x5 x6 x7 x8 x9 x10 x11 x12 x13 x14 x15 x16 x17 : Value, aa = { tmps := #[Value.agg #[Value.string p, Value.string t, Value.int IntKind.u64 s], Value.pointer (some { block := z, off := 0 }), Value.string { data := #[] }, Value.int IntKind.i64 0, x4, x5, x6, x7, x8, x9, x10, x11, x12, x13, x14, x15, x16, x17, undef, undef, undef], defers := [] } ∧ Mv_exec w1 z v2 s n0 v1 p t S x4 x5 x6 x7 x8 x9 x10 x11 x12 x13 x14 x15 x16 x17 W) (by kernel_rfl) (by kernel_rfl) ?_ ?_ ?_
  · exact ⟨undef, undef, undef, undef, undef, undef, undef, undef, undef, undef, undef, undef, undef, undef, rfl, ⟨(Below.refl _ w1).drew, nofun, nofun, nofun, nofun, nofun, nofun, nofun, nofun, nofun, nofun, nofun, nofun, nofun, nofun⟩⟩
  · intro i o S aa W hi hun hJ hall K hK
    obtain ⟨x4, x5, x6, x7, x8, x9, x10, x11, x12, x13, x14, x15, x16, x17, rfl, h⟩ := hJ
    have hlt : i < 14 := (List.getElem?_eq_some_iff.1 hi).1
    have hcase : i = 0 ∨ i = 1 ∨ i = 2 ∨ i = 3 ∨ i = 4 ∨ i = 5 ∨ i = 6 ∨ i = 7 ∨ i = 8 ∨ i = 9 ∨ i = 10 ∨ i = 11 ∨ i = 12 ∨ i = 13 := by omega
    rcases hcase with rfl | rfl | rfl | rfl | rfl | rfl | rfl | rfl | rfl | rfl | rfl | rfl | rfl | rfl
    all_goals (have ho := (Option.some.inj hi).symm; subst ho; clear hi hlt)
    · go_simp
      exact hK _ _ ⟨x4, x5, x6, _, x8, x9, x10, x11, x12, x13, x14, x15, x16, x17, rfl, ⟨h.e, fun _ => rfl, h.f1, h.f2, h.f3, h.f4, h.f5, h.f6, h.f7, h.f8, h.f9, h.f10, h.f11, h.f12, h.f13⟩⟩
    · have s_0 : S 0 = true := hall ⟨0, .data⟩ (by simp) rfl
      obtain rfl := h.f0 s_0
      have cW := (h.e.cell (p := ⟨z, 0, none⟩) hzw).trans c0
      go_simp
      exact hK _ _ ⟨x4, x5, x6, _, _, x9, x10, x11, x12, x13, x14, x15, x16, x17, rfl, ⟨h.e, h.f0, fun _ => rfl, h.f2, h.f3, h.f4, h.f5, h.f6, h.f7, h.f8, h.f9, h.f10, h.f11, h.f12, h.f13⟩⟩
    · go_simp
      exact hK _ _ ⟨x4, x5, x6, x7, x8, _, x10, x11, x12, x13, x14, x15, x16, x17, rfl, ⟨h.e, h.f0, h.f1, fun _ => rfl, h.f3, h.f4, h.f5, h.f6, h.f7, h.f8, h.f9, h.f10, h.f11, h.f12, h.f13⟩⟩
    · have s_2 : S 2 = true := hall ⟨2, .data⟩ (by simp) rfl
      obtain rfl := h.f2 s_2
      have cW := (h.e.cell (p := ⟨z, 1, none⟩) hzw).trans c1
      go_simp
      exact hK _ _ ⟨x4, x5, x6, x7, x8, _, _, x11, x12, x13, x14, x15, x16, x17, rfl, ⟨h.e, h.f0, h.f1, h.f2, fun _ => rfl, h.f4, h.f5, h.f6, h.f7, h.f8, h.f9, h.f10, h.f11, h.f12, h.f13⟩⟩
    · go_simp
      exact hK _ _ ⟨x4, x5, x6, x7, x8, x9, x10, _, x12, x13, x14, x15, x16, x17, rfl, ⟨h.e, h.f0, h.f1, h.f2, h.f3, fun _ => rfl, h.f5, h.f6, h.f7, h.f8, h.f9, h.f10, h.f11, h.f12, h.f13⟩⟩
    · have s_4 : S 4 = true := hall ⟨4, .data⟩ (by simp) rfl
      obtain rfl := h.f4 s_4
      have cW := (h.e.cell (p := ⟨z, 2, none⟩) hzw).trans c2
      go_simp
      exact hK _ _ ⟨x4, x5, x6, x7, x8, x9, x10, _, _, x13, x14, x15, x16, x17, rfl, ⟨h.e, h.f0, h.f1, h.f2, h.f3, h.f4, fun _ => rfl, h.f6, h.f7, h.f8, h.f9, h.f10, h.f11, h.f12, h.f13⟩⟩
    · have s_5 : S 5 = true := hall ⟨5, .data⟩ (by simp) rfl
      obtain rfl := h.f5 s_5
      go_simp
      refine (KN0 W).mono ?_
      rintro e w5 ⟨rfl, hb5⟩
      have h1 := h.grow hb5
      exact hK _ _ ⟨x4, x5, x6, x7, x8, x9, x10, x11, _, _, x14, x15, x16, x17, rfl, ⟨h1.e, h1.f0, h1.f1, h1.f2, h1.f3, h1.f4, h1.f5, fun _ => rfl, h1.f7, h1.f8, h1.f9, h1.f10, h1.f11, h1.f12, h1.f13⟩⟩
    · have s_1 : S 1 = true := hall ⟨1, .data⟩ (by simp) rfl
      obtain rfl := h.f1 s_1
      have s_3 : S 3 = true := hall ⟨3, .data⟩ (by simp) rfl
      obtain rfl := h.f3 s_3
      have s_6 : S 6 = true := hall ⟨6, .data⟩ (by simp) rfl
      obtain rfl := h.f6 s_6
      go_simp
      have h1 := h.grow ((Below.refl _ W).alloc (Nat.le_refl _) (.cells #[.string p, .string t, .string n0] 9))
      exact hK _ _ ⟨x4, x5, x6, x7, _, x9, _, x11, x12, _, _, x15, x16, x17, rfl, ⟨h1.e, h1.f0, h1.f1, h1.f2, h1.f3, h1.f4, h1.f5, h1.f6, fun _ => ⟨W.heap.size, rfl, h.e.size, by simp, World.alloc_heap_new W _⟩, h1.f8, h1.f9, h1.f10, h1.f11, h1.f12, h1.f13⟩⟩
    · have s_7 : S 7 = true := hall ⟨7, .data⟩ (by simp) rfl
      obtain ⟨g7, rfl, hg7, hh7, hc7⟩ := h.f7 s_7
      go_simp
      refine (KR g7 W hc7).mono ?_
      rintro e w5 ⟨rfl, hb5⟩
      have h1 := h.grow hb5
      exact hK _ _ ⟨x4, x5, x6, x7, x8, x9, x10, x11, x12, x13, _, _, x16, x17, rfl, ⟨h1.e, h1.f0, h1.f1, h1.f2, h1.f3, h1.f4, h1.f5, h1.f6, h1.f7, fun _ => rfl, h1.f9, h1.f10, h1.f11, h1.f12, h1.f13⟩⟩
    · have s_8 : S 8 = true := hall ⟨8, .data⟩ (by simp) rfl
      obtain rfl := h.f8 s_8
      go_simp
      exact hK _ _ ⟨x4, x5, _, x7, x8, x9, x10, x11, x12, x13, x14, _, x16, x17, rfl, ⟨h.e, h.f0, h.f1, h.f2, h.f3, h.f4, h.f5, h.f6, h.f7, h.f8, fun _ => rfl, h.f10, h.f11, h.f12, h.f13⟩⟩
    · have s_9 : S 9 = true := hall ⟨9, .data⟩ (by simp) rfl
      obtain rfl := h.f9 s_9
      go_simp
      exact hK _ _ ⟨x4, x5, _, x7, x8, x9, x10, x11, x12, x13, x14, x15, _, x17, rfl, ⟨h.e, h.f0, h.f1, h.f2, h.f3, h.f4, h.f5, h.f6, h.f7, h.f8, h.f9, fun _ => rfl, h.f11, h.f12, h.f13⟩⟩
    · have s_9 : S 9 = true := hall ⟨9, .data⟩ (by simp) rfl
      obtain rfl := h.f9 s_9
      go_simp
      exact hK _ _ ⟨x4, x5, _, x7, x8, x9, x10, x11, x12, x13, x14, x15, x16, _, rfl, ⟨h.e, h.f0, h.f1, h.f2, h.f3, h.f4, h.f5, h.f6, h.f7, h.f8, h.f9, h.f10, fun _ => rfl, h.f12, h.f13⟩⟩
    · have s_10 : S 10 = true := hall ⟨10, .data⟩ (by simp) rfl
      obtain rfl := h.f10 s_10
      go_simp
      exact hK _ _ ⟨_, x5, x6, x7, x8, x9, x10, x11, x12, x13, x14, x15, _, x17, rfl, ⟨h.e, h.f0, h.f1, h.f2, h.f3, h.f4, h.f5, h.f6, h.f7, h.f8, h.f9, h.f10, h.f11, fun _ => rfl, h.f13⟩⟩
    · have s_11 : S 11 = true := hall ⟨11, .data⟩ (by simp) rfl
      obtain rfl := h.f11 s_11
      go_simp
      exact hK _ _ ⟨x4, _, x6, x7, x8, x9, x10, x11, x12, x13, x14, x15, x16, _, rfl, ⟨h.e, h.f0, h.f1, h.f2, h.f3, h.f4, h.f5, h.f6, h.f7, h.f8, h.f9, h.f10, h.f11, h.f12, fun _ => rfl⟩⟩
  · rintro S aa W hall ⟨x4, x5, x6, x7, x8, x9, x10, x11, x12, x13, x14, x15, x16, x17, rfl, h⟩
    obtain rfl := h.f0 (hall 0 (by decide))
    obtain rfl := h.f1 (hall 1 (by decide))
    obtain rfl := h.f2 (hall 2 (by decide))
    obtain rfl := h.f3 (hall 3 (by decide))
    obtain rfl := h.f4 (hall 4 (by decide))
    obtain rfl := h.f5 (hall 5 (by decide))
    obtain rfl := h.f6 (hall 6 (by decide))
    obtain ⟨gg, rfl, hgg, hhg, hcg⟩ := h.f7 (hall 7 (by decide))
    obtain rfl := h.f8 (hall 8 (by decide))
    obtain rfl := h.f9 (hall 9 (by decide))
    obtain rfl := h.f10 (hall 10 (by decide))
    obtain rfl := h.f11 (hall 11 (by decide))
    obtain rfl := h.f12 (hall 12 (by decide))
    obtain rfl := h.f13 (hall 13 (by decide))
    have BW := h.e
    clear h hall
    have B8 := A0.trans (BW.mono (by omega))
    obtain ⟨r, hr⟩ : ∃ r, rt8 xs ((2 : Nat) : Int) = r := ⟨_, rfl⟩
    have HVr := HV.out
    unfold rvS rvE at HVr
    rw [hr] at HVr
    have HX : Hid _ := B8
    clear B8 BW A0 hcg hgg hhg
    cases r with
    | true =>
      rw [if_pos rfl, if_pos rfl] at HVr
      have e1 : rtS xs 2 = v1 := by unfold rtS; rw [hr, if_pos rfl]; exact HVr.1
      have e2 : rtE xs 2 = 0 := by unfold rtE; rw [hr, if_pos rfl]
      have HE : Hid (_ ∧ _) := ⟨e1, e2⟩
      obtain rfl : (0 : Int) = v2 := HVr.2
      clear e1 e2 HVr hr
      go_wp2
      go_ret2
      rw [HZ.out, HE.out.1, HE.out.2]
      exact ⟨rfl, HX.out⟩
    | false =>
      rw [if_neg (by decide), if_neg (by decide)] at HVr
      have e1 : rtS xs 2 = ⟨#[]⟩ := by unfold rtS; rw [hr, if_neg (by decide)]
      have e2 : rtE xs 2 = 130 := by unfold rtE; rw [hr, if_neg (by decide)]
      have HE : Hid (_ ∧ _) := ⟨e1, e2⟩
      obtain rfl : (80 : Int) = v2 := HVr.2
      clear e1 e2 HVr hr
      go_wp2
      go_ret2
      rw [HZ.out, HE.out.1, HE.out.2]
      exact ⟨rfl, HX.out⟩
end Go.Proofs.YtmefanagpkbjeabDoor
namespace Go.Proofs.YtmefanagpkbjeabDoor
open Go.RowKit Go.Shelf Go.Sort

theorem num_zero : z_numOf 0 = zs 32 := by decide +kernel
theorem rt_shown (x z : ByteArray) (hx : x.size = 32) (hz : z.size = 32) : rt8 [x, z, z, z, z] ((3 : Nat) : Int) = true := by
  rw [rt8_iff]
  refine ⟨by decide, by decide, by show 5 ≤ 8; decide, by show 5 ≤ 256; decide, fun y hy => ?_⟩
  simp at hy
  rcases hy with h | h <;> rw [h] <;> assumption
theorem rt_none (x z y : ByteArray) (hy : y.size ≠ 32) : rt8 [x, z, z, z, y] ((3 : Nat) : Int) = false := by
  cases h : rt8 [x, z, z, z, y] ((3 : Nat) : Int) with
  | false => rfl
  | true => exact absurd (((rt8_iff _ _).1 h).2.2.2.2 y (by simp)) hy
set_option maxRecDepth 100000 in
set_option maxHeartbeats 4000000 in
theorem shown13_any (w : World) (hl : Laid w) :
    Calls Tryd.prog 4 #[] w fun e w' => e = .returned (.bool true) ∧ Below w.heap.size w w' := by
  obtain ⟨i0, hi0, hz0, hz1, hz2⟩ := info_parts info_u8'
  have hzs : (zs 32).size = 32 := zs_size 32
  have hex : ((zs 32).extract 1 32).size = 31 := by rw [ByteArray.size_extract, hzs]; rfl
  have KR1 := fun W hL => hroot_any 1 0 (zs 32) (zs 32) (zs 32) W hL
  have KR2 := fun W hL => hroot_any 1 0 (zs 32) (zs 32) ((zs 32).extract 1 32) W hL
  have KN := fun W => z_number_any 1 W
  have HN1 : (z_numOf 1).size = 32 := z_num_size 1
  unfold hdC at KR1 KR2
  rw [num_zero] at KR1 KR2
  obtain ⟨n1, hn1⟩ : ∃ x, z_numOf 1 = x := ⟨_, rfl⟩
  rw [hn1] at KR1 KR2 KN HN1
  have hy31 : ((zs 32).extract 1 32).size ≠ 32 := by omega
  have r1 := rt_shown n1 (zs 32) HN1 hzs
  have r2 := rt_none n1 (zs 32) ((zs 32).extract 1 32) hy31
  unfold rtS rtE at KR1 KR2
  rw [r1, if_pos rfl, if_pos rfl] at KR1
  rw [r2, if_neg (by decide), if_neg (by decide)] at KR2
  have KS : ∀ (g : Nat) (W : World), Laid W → W.heap[g]? = some (.cells #[.string n1, .string (zs 32), .string (zs 32), .string (zs 32), .string (zs 32)] 9 (0, 0)) → Calls Tryd.prog 11 #[.slice (some ⟨g, 0, none⟩) 5 5, .int .i64 3] W fun e w' => e = .returned (.tuple #[.string (lf (lvs [n1, zs 32, zs 32, zs 32, zs 32]) 3 0), .int .i64 0]) ∧ Below W.heap.size W w' := fun g W hL hg => by
    have := root_any [n1, zs 32, zs 32, zs 32, zs 32] ((3 : Nat) : Int) (some ⟨g, 0, none⟩) 5 (g + 1) W hL (Array.getElem?_eq_some_iff.1 hg).1 (slS_cells hg)
    rw [rootV_eq] at this
    unfold rvS rvE at this
    rw [r1, if_pos rfl, if_pos rfl] at this
    exact this
  obtain ⟨y, hy⟩ : ∃ y, lf (lvs [n1, zs 32, zs 32, zs 32, zs 32]) 3 0 = y := ⟨_, rfl⟩
  rw [hy] at KR1 KS
  obtain ⟨z, hz⟩ : ∃ z, zs 32 = z := ⟨_, rfl⟩
  have HZV : Hid (zs 32 = z) := hz
  rw [hz] at KR1 KR2 KS hzs
  obtain ⟨z1, hz1'⟩ : ∃ q, z.extract 1 32 = q := ⟨_, rfl⟩
  rw [hz1'] at KR2
  have HZ1 : Hid (z.extract 1 32 = z1) := hz1'
  have hs1 : (z.size : Int) = 32 := by omega
  clear r1 r2 hy hn1 HN1 hex hy31 hz hz1'
  go_enter Tryd.func4, Tryd.ntmps4
  go_wp2_with (at_make; refine wpList_make_full _ rfl _ _ 40 rfl w.heap.size 5 i0 _ 1 Tryd.underlying40 hi0 hz0 hz1 .i64 .i64 _ _ 32 rfl rfl rfl rfl (by rw [hz2]; omega) (by unfold maxLen; omega) (Nat.le_refl _) ?_; intro w1 hown hgr)
  have hcv := run_convert_bytes_back (P := Tryd.prog) w1 40 9 5 ⟨w.heap.size, 0, none⟩ 32 (s_by8 32 fun _ => 0) Tryd.underlying40 Tryd.underlying5 Tryd.underlying9 (fun j hj => by
    rw [s_by8_at _ _ (fun _ => ⟨by decide, by decide⟩)]
    rw [s_by8_len] at hj
    exact hown.cells (g := w.heap.size) rfl j _ (by simp [madeCells, hj, Value.cells, Nat.mod_one]))
  rw [s_by8_len, show (⟨(s_by8 32 fun _ => 0).toArray⟩ : ByteArray) = z from HZV.out] at hcv
  have B1 : Below w.heap.size w w1 := (Below.refl _ w).grown hgr (Nat.le_refl _) (fun _ e => by cases e)
  clear hown hgr
  first | rw [hcv] | skip
  go_wp2_with fail
  obtain ⟨q, hq⟩ : ∃ q, w1.heap.size = q := ⟨_, rfl⟩
  have A2 : Below w.heap.size w (w1.alloc (.cells #[.int .u64 1, .int .u64 0, .string z, .string z, .string z] 24)) := B1.alloc B1.size _
  have hb2 : (w1.alloc (.cells #[.int .u64 1, .int .u64 0, .string z, .string z, .string z] 24)).heap[q]? = some (.cells #[.int .u64 1, .int .u64 0, .string z, .string z, .string z] 24 (0, 0)) := by rw [← hq]; exact World.alloc_heap_new w1 _
  have hwq : w.heap.size ≤ q := by rw [← hq]; exact B1.size
  refine (KR1 _ (hl.below A2)).mono ?_
  rintro e w2 ⟨rfl, B2⟩
  have BX := belowStep A2 A2.size B2
  have hb := (B2.block q (Array.getElem?_eq_some_iff.1 hb2).1).trans hb2
  rw [hq]
  clear KR1 A2 B2 hb2 B1 hcv hq
  go_wp2_with fail
  refine (KN _).mono ?_
  rintro e w3 ⟨rfl, B3⟩
  have BY := belowStep BX BX.size B3
  have hb3 := (B3.block q (Array.getElem?_eq_some_iff.1 hb).1).trans hb
  clear KN B3 hb BX
  go_wp2_with fail
  have A4 : Below w3.heap.size w3 (w3.alloc (.cells #[.string n1, .string z, .string z, .string z, .string z] 9)) := (Below.refl _ w3).alloc (Nat.le_refl _) _
  refine (KS _ _ ((hl.below BY).below A4) (World.alloc_heap_new w3 _)).mono ?_
  rintro e w4 ⟨rfl, B4⟩
  have BB := belowStep A4 A4.size B4
  have BZ := belowStep BY BY.size BB
  have hb4 := (BB.block q (Array.getElem?_eq_some_iff.1 hb3).1).trans hb3
  have hqw := (Array.getElem?_eq_some_iff.1 hb4).1
  have hmin : (1 : Int) ≤ z.size := by omega
  have hex : z.extract 1 z.size = z1 := by rw [hzs]; exact HZ1.out
  clear KS A4 B4 BB hb3 BY
  have c0 : w4.cell? ⟨q, 0, none⟩ = some (.int .u64 1) := by rw [Lib.cell_of_heap hb4]; rfl
  have c1 : w4.cell? ⟨q, 1, none⟩ = some (.int .u64 0) := by rw [Lib.cell_of_heap hb4]; rfl
  have c2 : w4.cell? ⟨q, 2, none⟩ = some (.string z) := by rw [Lib.cell_of_heap hb4]; rfl
  have c3 : w4.cell? ⟨q, 3, none⟩ = some (.string z) := by rw [Lib.cell_of_heap hb4]; rfl
  have c4 : w4.cell? ⟨q, 4, none⟩ = some (.string z) := by rw [Lib.cell_of_heap hb4]; rfl
  have f4 := fun o => Lib.frozen_of_heap hb4 o
  have HX : Hid _ := BZ
  clear BZ
  go_wp2_with fail
  rw [HZ1.out]
  have BZ := HX.out.setCell (p := ⟨q, 4, none⟩) hwq (.string z1)
  refine (KR2 _ (hl.below BZ)).mono ?_
  rintro e w5 ⟨rfl, B5⟩
  have HF : Hid _ := belowStep BZ BZ.size B5
  have hyy : (y.toList == y.toList) = true := beq_self_eq_true _
  clear KR2 BZ B5 HX hex c0 c1 c2 c3 c4 f4
  go_wp2
  go_ret
  exact ⟨rfl, HF.out⟩
end Go.Proofs.YtmefanagpkbjeabDoor
