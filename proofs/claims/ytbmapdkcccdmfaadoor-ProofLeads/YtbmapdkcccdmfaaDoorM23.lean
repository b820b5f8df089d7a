/- Lemmas: What Of does at this translation: a key's path. Condition: the key has fewer than 10^9 bytes. -/
import Derived.Test.YtbmapdkcccdmfaaDoorM1
import Derived.Test.YtbmapdkcccdmfaaDoorM11
import Derived.Test.YtbmapdkcccdmfaaDoorM18
import Derived.Test.YtbmapdkcccdmfaaDoorM19
import Derived.Test.YtbmapdkcccdmfaaDoorM20
import Derived.Test.YtbmapdkcccdmfaaDoorM21
import Derived.Test.YtbmapdkcccdmfaaDoorM22
import Derived.Test.YtbmapdkcccdmfaaDoorM3
import Derived.Test.YtbmapdkcccdmfaaDoorRows
namespace Go.Proofs.YtbmapdkcccdmfaaDoor
open Go.RowKit Go.Shelf Go.Sort
attribute [local go_sem] Oper.semAt_some

theorem Bld.own {B b : Nat} {bs : List Value} {A C : World} {row : Option Nat} (h : Bld B b bs A) (hg : A.grownBy C row) (hr : ∀ r, row = some r → ∃ o : Obj, A.heap[r]? = some o ∧ o.isCells = false) : Bld B b bs C := by
 obtain ⟨hB, v, hb, hown, hne⟩ := h
 have ht : ∀ k c T fz, A.heap[k]? = some (.cells c T fz) → row ≠ some k := fun k c T fz hk e => by
  obtain ⟨o, ho, hc⟩ := hr k e
  rw [hk] at ho
  cases ho
  cases hc
 refine ⟨hB, v, (hg.block b (Array.getElem?_eq_some_iff.1 hb).1 (fun e => ht _ _ _ _ hb e.symm)).trans hb, ?_, hne⟩
 refine hown.kept hg ?_
 cases e : v.ownBlock with
 | none => exact .inl rfl
 | some k =>
  obtain ⟨c, fz, hk⟩ := Lib.ownsRowF_kind (World.ownsRowF_of hown) k e
  exact .inr fun e' => ht k c _ fz hk e'.symm
theorem Bld.below {B b : Nat} {bs : List Value} {A C : World} (h : Bld B b bs A) (hb : Below A.heap.size A C) : Bld B b bs C := h.own (n_grown_of hb) (fun r e => by cases e)
theorem Bld.lt {B b : Nat} {bs : List Value} {A : World} (h : Bld B b bs A) : b < A.heap.size := Lib.BuilderAt.lt h
theorem kept_from {b : Nat} {B : Nat} {bs : List Value} {A C : World} (n : Nat) (h : Lib.OthersKept 5 (some b) A C) (hz : A.heap.size ≤ C.heap.size) (hb : Bld B b bs A) : KeepsFrom n A C := by
 refine ⟨hz, fun k o _ hk ho => h k o hk (fun e => ?_) (fun c fz e => ?_)⟩
 ·cases e
  obtain ⟨_, v, hb, _, _⟩ := hb
  rw [hb] at hk
  cases hk
  cases ho
 ·rw [e] at ho
  cases ho
theorem kept_txt {b bX : Nat} {t : ByteArray} {A C : World} (h : Lib.OthersKept 5 (some b) A C) (hb : bX ≠ b) : TxtK bX t A C := fun hc =>
 h bX _ hc (fun e => hb (by cases e; rfl)) (fun c fz e => by cases e)

theorem string_any (B b : Nat) (l : List UInt8) (w : World) (h : Bld B b (Lib.byteCells l) w) :
  Calls Tryd.prog 43 #[.pointer (some ⟨b, 0, none⟩)] w fun e w' => e = .returned (.string ⟨l.toArray⟩) ∧ Below B w w' ∧ Lib.OthersKept 5 (some b) w w' := by
 have hlt := h.lt
 obtain ⟨hB, v, hb, hown, hne⟩ := h
 exact (Tryd.Builder_String_any_k B b l w (.inr ⟨hB, v, hb, World.ownsRowF_of hown, hne⟩) (by omega)).mono fun _ _ h => ⟨h.1, h.2.2⟩

def ofOf (s : ByteArray) : ByteArray := ⟨(n_by8 (2 * s.size) (half s)).toArray⟩
theorem byteCells_map (f : Nat → Int) (hf : ∀ j, 0 ≤ f j ∧ f j < 256) (l : List Nat) : l.map (fun x => Value.int .u8 (f x)) = Lib.byteCells (l.map fun x => UInt8.ofNat (f x).toNat) := by
 unfold Lib.byteCells
 rw [List.map_map]
 refine List.map_congr_left fun x _ => ?_
 have := hf x
 show _ = Value.int .u8 _
 congr 1
 simp only [UInt8.toNat_ofNat']
 omega

set_option maxRecDepth 100000 in
set_option maxHeartbeats 2000000 in
theorem of_any (t : ByteArray) (ht : t.size < 1000000000) (w : World) :
  Calls Tryd.prog 23 #[.string t] w fun e w' => e = .returned (.string (ofOf t)) ∧ Below w.heap.size w w' := by
 refine (callsIn_wide (n := 9)).1 ?_
 refine callsIn_of_wp_marks Tryd.func23 rfl trivial ?_ rfl
 refine wpIn_wide.2 ?_
 simp only [Tryd.ntmps23, List.size_toArray, List.length_cons, List.length_nil, Nat.reduceAdd, Nat.reduceSub, Array.replicate_succ, Array.replicate_zero, List.push_toArray, List.append_toArray, List.nil_append, List.cons_append]
 have wz : IntKind.i64.wrap (2 * (t.size : Int)) = ((2 * t.size : Nat) : Int) := by rw [IntKind.wrap_i64]; omega
 go_wp2_with fail
 have hnew : (w.alloc (.cells #[.pointer none, .slice none 0 0] 83)).heap[w.heap.size]? = some (.cells #[.pointer none, .slice none 0 0] 83 (0, 0)) := World.alloc_heap_new w _
 have KG := Tryd.Builder_Grow_fresh w.heap.size w.heap.size (2 * t.size) (w.alloc (.cells #[.pointer none, .slice none 0 0] 83)) (Nat.le_refl _) hnew (by simp) (by omega)
 rw [show ((2 * t.size : Nat) : Int) = 2 * (t.size : Int) by omega] at KG
 refine KG.mono ?_
 rintro e w1 ⟨rfl, hb1, B1⟩
 have BW1 := ((Below.refl w.heap.size w).alloc (Nat.le_refl _) (.cells #[.pointer none, .slice none 0 0] 83)).trans B1
 replace hb1 : Bld w.heap.size w.heap.size [] w1 := hb1
 clear KG B1 hnew wz
 go_wp2_with fail
 refine (halves_any t w1).mono ?_
 rintro e w2 ⟨rfl, hw2⟩
 have hcx : TxtIn w1.heap.size t w2 := by rw [hw2]; exact World.alloc_heap_new w1 _
 have B2 : Below w1.heap.size w1 w2 := by rw [hw2]; exact (Below.refl _ w1).alloc (Nat.le_refl _) _
 have hb2 := hb1.below B2
 have BW2 := belowStep BW1 BW1.size B2
 have hz1 : w.heap.size < w1.heap.size := hb1.lt
 clear hw2 B2 BW1 hb1
 obtain ⟨bX, hbX⟩ : ∃ c, w1.heap.size = c := ⟨_, rfl⟩
 rw [hbX] at hcx hz1 ⊢
 clear hbX
 obtain ⟨z, hz⟩ : ∃ c, w.heap.size = c := ⟨_, rfl⟩
 have HZ : Hid (w.heap.size = z) := hz
 rw [hz] at BW2 hb2 hz1 ⊢
 clear hz
 go_wp2_with fail
 have hxz : bX < w2.heap.size := hcx.lt
 refine (wpIn_wide (n := 9)).1 ?_
 refine wpIn_rangeFunc_ownH rfl (by omega) (gf := 65) (lb := #[.pointer (some ⟨bX, 0, none⟩)]) rfl trivial (enters_of Tryd.func65 (by kernel_rfl) rfl)
  (halves_stops _ bX t ht w2 hcx) (fun h k => TxtK.trans h k) (fun W l o o' hl h1 h2 h3 hx => (World.putObj_heap_other (by omega)).trans hx) (Below.refl _ _) (fun _ => rfl)
  (fun pre W => Bld z z (pre.map fun x => .int .u8 (half t x)) W ∧ Below z w W ∧ bX < W.heap.size)
  (fun _ _ _ => False)
  (fun s A C row hs hg hr => ⟨hs.1.own hg (fun r e => (hr r e).2), hs.2.1.grown hg (by have := hs.1.lt; omega) (fun k e => Nat.le_trans (by omega) (hr k e).1), Nat.lt_of_lt_of_le hs.2.2 hg.size⟩)
  (fun _ _ _ _ _ hs _ _ => hs)
  ⟨hb2, BW2, hxz⟩
  (fun x a' _ => a' = { tmps := #[.string t, undef, .string ⟨#[]⟩, .pointer (some ⟨z, 0, none⟩), undef, .int .u8 (half t x), .string t, .int .i64 t.size, .int .i64 (2 * t.size), .tuple #[], .string t, .func (.func 65) #[] #[.pointer (some ⟨bX, 0, none⟩)], .int .i64 (x % 4294967296), .int .u8 (half t x), undef, undef, undef], defers := [] })
  (fun x a' _ X Y row hs hg hr => hs)
  ?assign ?body ?done ?stop
 case assign =>
  rintro l pre x W K ⟨F3, B3, hxW⟩ hK
  dsimp only [hEnc]
  gi_wp2
  exact hK _ _ (KeepsFrom.refl _ _) (fun h => h) ⟨F3, B3, hxW⟩ rfl
 case body =>
  rintro l pre x a' W hl ⟨r, hr⟩ ⟨F3, B3, hxW⟩ rfl hlt
  obtain ⟨u, hu⟩ : ∃ u, half t x = u := ⟨_, rfl⟩
  obtain ⟨bs, hbs⟩ : ∃ bs, (pre.map fun x => Value.int .u8 (half t x)) = bs := ⟨_, rfl⟩
  have hbl : bs.length = pre.length := by rw [← hbs, List.length_map]
  have HU : Hid (half t x = u ∧ (pre.map fun x => Value.int .u8 (half t x)) = bs) := ⟨hu, hbs⟩
  rw [hbs] at F3
  rw [hu]
  clear hu hbs
  gi_wp2_with fail
  refine ⟨trivial, (CallsIn.inRound l (callsIn_wide.2 (writeByte_any z z bs u W F3 (by omega) (Nat.le_of_lt F3.lt)))).mono ?_⟩
  rintro e W4 ⟨rfl, F4, B4, K4⟩
  have hz4 : W.heap.size ≤ W4.heap.size := B4.size
  gi_wp2
  refine (?_ : KeepsFrom _ W W4 ∧ TxtK bX t W W4 ∧ Bld z z ((pre ++ [x]).map fun x => .int .u8 (half t x)) W4 ∧ Below z w W4 ∧ bX < W4.heap.size)
  refine ⟨kept_from _ K4 hz4 F3, kept_txt K4 (by omega), ?_, B3.trans B4, Nat.lt_of_lt_of_le hxW hz4⟩
  rw [List.map_append, HU.out.2, List.map_cons, HU.out.1]
  exact F4
 case done =>
  rintro D ys W hD rfl ⟨F3, B3, hxW⟩ hK
  obtain ⟨bs, hbs⟩ : ∃ bs, (List.range (2 * t.size)).map (fun x => UInt8.ofNat (half t x).toNat) = bs := ⟨_, rfl⟩
  rw [byteCells_map (half t) (fun j => by have := half_bd t j; omega), hbs] at F3
  have HO : Hid (ofOf t = ⟨bs.toArray⟩) := by unfold ofOf n_by8; rw [hbs]; rfl
  clear hbs
  go_wp2_with fail
  refine (string_any z z bs W F3).mono ?_
  rintro e w4 ⟨rfl, B4, K4⟩
  have hK4 := K4 D _ hK (fun e => by cases e; have := F3.lt; omega) (fun c fz e => by cases e)
  have BW4 := B3.trans B4
  clear B4 K4 hK
  go_wp2
  have hbP := belowK_b (n₀ := z) (w := w2) (by omega) w4 D _ (.deferred none) hD hK4 rfl rfl
  refine ⟨by simp, .inl ⟨_, _, rfl, run_takeDeferred hK4, ?_⟩⟩
  refine ⟨.string ⟨bs.toArray⟩, by simp [results, Tryd.results23, go_sem], by rw [HO.out], ?_⟩
  rw [HZ.out]
  exact BW4.trans hbP
 case stop =>
  rintro D c pre W _ _ h _
  exact h.elim
end Go.Proofs.YtbmapdkcccdmfaaDoor
