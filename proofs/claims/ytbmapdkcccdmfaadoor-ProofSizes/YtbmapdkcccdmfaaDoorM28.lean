/- Lemmas: Read of no bytes at all; and what Read answers, whatever the bytes. -/
import Derived.Test.YtbmapdkcccdmfaaDoorM1
import Derived.Test.YtbmapdkcccdmfaaDoorM11
import Derived.Test.YtbmapdkcccdmfaaDoorM18
import Derived.Test.YtbmapdkcccdmfaaDoorM19
import Derived.Test.YtbmapdkcccdmfaaDoorM20
import Derived.Test.YtbmapdkcccdmfaaDoorM21
import Derived.Test.YtbmapdkcccdmfaaDoorM22
import Derived.Test.YtbmapdkcccdmfaaDoorM23
import Derived.Test.YtbmapdkcccdmfaaDoorM24
import Derived.Test.YtbmapdkcccdmfaaDoorM25
import Derived.Test.YtbmapdkcccdmfaaDoorM26
import Derived.Test.YtbmapdkcccdmfaaDoorM27
import Derived.Test.YtbmapdkcccdmfaaDoorM3
import Derived.Test.YtbmapdkcccdmfaaDoorRows
namespace Go.Proofs.YtbmapdkcccdmfaaDoor
open Go.RowKit Go.Shelf Go.Sort
attribute [local go_sem] Oper.semAt_some

set_option maxRecDepth 100000 in
set_option maxHeartbeats 2000000 in
theorem read_none (w : World) :
  Calls Tryd.prog 102 #[.string ⟨#[]⟩] w fun e w' => e = .returned (.tuple #[.string ⟨#[]⟩, .bool false, .int .i64 50]) ∧ Below w.heap.size w w' := by
 refine (callsIn_wide (n := 9)).1 ?_
 refine callsIn_of_wp_marks Tryd.func102 rfl trivial ?_ rfl
 refine wpIn_wide.2 ?_
 simp only [Tryd.ntmps102, List.size_toArray, List.length_cons, List.length_nil, Nat.reduceAdd, Nat.reduceSub, Array.replicate_succ, Array.replicate_zero, List.push_toArray, List.append_toArray, List.nil_append, List.cons_append]
 go_wp2_with fail
 refine wp_scope_straight ?_
 go_wp2_with fail
 have hnew : (w.alloc (.cells #[.pointer none, .slice none 0 0] 83)).heap[w.heap.size]? = some (.cells #[.pointer none, .slice none 0 0] 83 (0, 0)) := World.alloc_heap_new w _
 have KG := Tryd.Builder_Grow_fresh w.heap.size w.heap.size 0 (w.alloc (.cells #[.pointer none, .slice none 0 0] 83)) (Nat.le_refl _) hnew (by simp) (by omega)
 refine KG.mono ?_
 rintro e w1 ⟨rfl, hb1, B1⟩
 have BW1 := ((Below.refl w.heap.size w).alloc (Nat.le_refl _) (.cells #[.pointer none, .slice none 0 0] 83)).trans B1
 replace hb1 : Bld w.heap.size w.heap.size [] w1 := hb1
 have hz1 := hb1.lt
 clear KG B1 hnew hb1
 go_wp2_with fail
 refine wpOf (fun W => n_Bx (w1.heap.size + 1) 4 (.bool false) W ∧ Below w.heap.size w W) ?_ ?_
 ·have a1 : Below w1.heap.size w1 ((w1.alloc (.cells #[.int .u8 0] 5)).alloc (.cells #[.bool false] 4)) := ((Below.refl _ w1).alloc (Nat.le_refl _) _).alloc (by simp) _
  refine ⟨?_, belowStep BW1 BW1.size a1⟩
  have := World.alloc_heap_new (w1.alloc (.cells #[.int .u8 0] 5)) (.cells #[.bool false] 4)
  rwa [World.size_alloc] at this
 rintro w2 ⟨hP, BW2⟩
 obtain ⟨bP, hbP⟩ : ∃ c, w1.heap.size + 1 = c := ⟨_, rfl⟩
 rw [hbP] at hP ⊢
 obtain ⟨z, hz⟩ : ∃ c, w.heap.size = c := ⟨_, rfl⟩
 have HZ : Hid (w.heap.size = z) := hz
 rw [hz] at BW2 hz1 ⊢
 clear hz BW1
 refine wp_label ?_
 go_wp2_with fail
 refine (halves_any ⟨#[]⟩ w2).mono ?_
 rintro e w3 ⟨rfl, hw3⟩
 have a3 : Below w2.heap.size w2 w3 := by rw [hw3]; exact (Below.refl _ w2).alloc (Nat.le_refl _) _
 have hcx : TxtIn w2.heap.size ⟨#[]⟩ w3 := by rw [hw3]; exact World.alloc_heap_new w2 _
 have hPw := hP.lt
 have hP3 : n_Bx bP 4 (.bool false) w3 := (a3.block bP hP.lt).trans hP
 have BW3 := belowStep BW2 (by omega) a3
 clear hw3 a3 hP BW2
 obtain ⟨bX, hbX⟩ : ∃ c, w2.heap.size = c := ⟨_, rfl⟩
 rw [hbX] at hcx hPw ⊢
 clear hbX
 go_wp2_with fail
 have hxz : bX < w3.heap.size := hcx.lt
 refine (wpIn_wide (n := 9)).1 ?_
 refine wpIn_rangeFunc_ownH rfl (by omega) (gf := 65) (lb := #[.pointer (some ⟨bX, 0, none⟩)]) rfl trivial (enters_of Tryd.func65 (by kernel_rfl) rfl)
  (halves_stops _ bX ⟨#[]⟩ (by decide) w3 hcx) (fun h k => TxtK.trans h k) (fun W l o o' hl h1 h2 h3 hx => (World.putObj_heap_other (by omega)).trans hx) (Below.refl _ _) (fun _ => rfl)
  (fun pre W => n_Bx bP 4 (.bool false) W ∧ Below z w W)
  (fun _ _ _ => False)
  (fun s A C row hs hg hr => ⟨hs.1.own hg (fun r e => (hr r e).2), hs.2.grown hg (by have := hs.1.lt; omega) (fun k e => Nat.le_trans (by omega) (hr k e).1)⟩)
  (fun _ _ _ _ _ hs _ _ => hs)
  ⟨hP3, BW3⟩
  (fun _ _ _ => True)
  (fun _ _ _ _ _ _ _ _ _ => trivial)
  ?assign ?body ?done ?stop
 case assign =>
  rintro l pre x W K hI hK
  dsimp only [hEnc]
  gi_wp2
  exact hK _ _ (KeepsFrom.refl _ _) (fun h => h) hI trivial
 case body =>
  rintro l pre x a' W hl _ _ _ hlt
  exact absurd hlt (Nat.not_lt_zero _)
 case done =>
  rintro D ys W hD rfl ⟨hPf, BWf⟩ hK
  have hP4 := hPf.cell
  go_wp2
  have hbP := belowK_b (n₀ := z) (w := w3) (by omega) W D _ (.deferred none) hD hK rfl rfl
  rw [Exit.noGoto_ret]
  refine ⟨by simp, .inl ⟨_, _, rfl, run_takeDeferred hK, ?_⟩⟩
  refine ⟨.tuple #[.string ⟨#[]⟩, .bool false, .int .i64 50], by simp [results, Tryd.results102, go_sem], rfl, ?_⟩
  rw [HZ.out]
  exact BWf.trans hbP
 case stop =>
  rintro D c pre W _ _ h _
  exact h.elim

theorem readAll_any (s : ByteArray) (hs : s.size ≤ 100000000) (w : World) :
  Calls Tryd.prog 102 #[.string s] w fun e w' => e = .returned (.tuple #[.string (rdS s), .bool (rdL s), .int .i64 (rdE s)]) ∧ Below w.heap.size w w' := by
 by_cases h0 : 0 < s.size
 ·exact read_any s hs h0 w
 ·have he : s = ⟨#[]⟩ := n_ext_bt _ _ (by show s.size = 0; omega) (fun j hj => absurd hj (by omega))
  have h1 : rdGood ⟨#[]⟩ = false := rfl
  rw [he]
  have h2 : rdS ⟨#[]⟩ = ⟨#[]⟩ ∧ rdL ⟨#[]⟩ = false ∧ rdE ⟨#[]⟩ = 50 := by
   unfold rdS rdL rdE
   rw [h1]
   exact ⟨rfl, rfl, rfl⟩
  rw [h2.1, h2.2.1, h2.2.2]
  exact read_none w
end Go.Proofs.YtbmapdkcccdmfaaDoor
