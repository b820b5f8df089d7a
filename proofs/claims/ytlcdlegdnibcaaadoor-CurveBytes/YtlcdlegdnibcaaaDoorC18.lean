/- The walk of CurveBytes. No condition. -/
import Derived.Test.YtlcdlegdnibcaaaDoorC16
import Derived.Test.YtlcdlegdnibcaaaDoorC17
namespace Go.Proofs.YtlcdlegdnibcaaaDoor
open Go.RowKit Go.Shelf Go.Sort

set_option maxRecDepth 20000 in
set_option maxHeartbeats 8000000 in
theorem cbytes_any (p : Pt) (s : ByteArray) (hp : UT p) (w : World) (hL : Li w) :
    Calls Tryd.prog 5 #[vT p, .string s] w fun e w' => e = .returned (.bool true) ∧ Below w.heap.size w w' := by
  obtain ⟨a, c, e1⟩ := byt_tup p
  obtain ⟨r, d, e2⟩ := fr_tup s
  have C1 := bytes_any p hp
  have C2 := rbytes_any p hp
  have C3 := from_any s
  have C4 := rfrom_any s
  rw [e1] at C1 C2
  rw [e2] at C3 C4
  have E1 := eqlT r r
  rw [decide_eq_true rfl] at E1
  clear e1 e2
  go_enter Tryd.func5, Tryd.ntmps5
  go_wp2_with fail
  refine callsOf (fun W => Below w.heap.size w W ∧ Tb w.heap.size p W ∧ Li W) ⟨by go_grown, Tb.new' w p 24 _ rfl, (hL).alloc _⟩ ?_
  rintro w0 ⟨BV, h0, LV⟩
  refine (shown_any _ LV).mono ?_
  rintro e w1 ⟨rfl, B1⟩
  have g0 := h0.below B1
  have LG := LV.below B1
  have BG := belowStep BV BV.size B1
  clear h0 LV BV B1
  have ⟨z0, a0, b0, c0, f0⟩ := g0
  have HX : Hid (_ ∧ _ ∧ _) := ⟨BG, g0, LG⟩
  clear BG LG g0
  go_wp2_with fail
  obtain ⟨BV, h0, LV⟩ := HX.out
  clear HX z0 a0 b0 c0 f0
  refine (C1 _ LV).mono ?_
  rintro e w2 ⟨rfl, B2⟩
  have g0 := h0.below B2
  have LG := LV.below B2
  have BG := belowStep BV BV.size B2
  clear h0 LV BV B2
  have ⟨z0, a0, b0, c0, f0⟩ := g0
  have HX : Hid (_ ∧ _ ∧ _) := ⟨BG, g0, LG⟩
  clear BG LG g0
  go_wp2_with fail
  obtain ⟨BV, h0, LV⟩ := HX.out
  clear HX z0 a0 b0 c0 f0
  refine (C2 _).mono ?_
  rintro e w3 ⟨rfl, B3⟩
  have g0 := h0.below B3
  have LG := LV.below B3
  have BG := belowStep BV BV.size B3
  clear h0 LV BV B3
  have ⟨z0, a0, b0, c0, f0⟩ := g0
  have HX : Hid (_ ∧ _ ∧ _) := ⟨BG, g0, LG⟩
  clear BG LG g0
  go_wp2_with fail
  obtain ⟨BV, h0, LV⟩ := HX.out
  clear HX z0 a0 b0 c0 f0
  refine (C3 _ LV).mono ?_
  rintro e w4 ⟨rfl, B4⟩
  have g0 := h0.below B4
  have LG := LV.below B4
  have BG := belowStep BV BV.size B4
  clear h0 LV BV B4
  have ⟨z0, a0, b0, c0, f0⟩ := g0
  have HX : Hid (_ ∧ _ ∧ _ ∧ _) := ⟨BG.alloc BG.size (bxP r), g0.alloc (bxP r), Tb.new' w4 r 24 _ rfl, LG.alloc (bxP r)⟩
  clear BG LG g0
  go_wp2_with fail
  refine callsOf (fun W => Below w.heap.size w W ∧ Tb w.heap.size p W ∧ Tb w4.heap.size r W ∧ Li W) HX.out ?_
  rintro v4 ⟨BV, h0, h1, LV⟩
  obtain ⟨n1, hn⟩ : ∃ n, w4.heap.size = n := ⟨_, rfl⟩
  rw [hn] at h1 ⊢
  clear HX hn z0 a0 b0 c0 f0 w4
  refine (C4 _).mono ?_
  rintro e w5 ⟨rfl, B5⟩
  have g0 := h0.below B5
  have g1 := h1.below B5
  have LG := LV.below B5
  have BG := belowStep BV BV.size B5
  clear h0 h1 LV BV B5
  have ⟨z0, a0, b0, c0, f0⟩ := g0
  have ⟨z1, a1, b1, c1, f1⟩ := g1
  have HX : Hid (_ ∧ _ ∧ _ ∧ _ ∧ _) := ⟨BG.alloc BG.size (bxP r), g0.alloc (bxP r), g1.alloc (bxP r), Tb.new' w5 r 24 _ rfl, LG.alloc (bxP r)⟩
  clear BG LG g0 g1
  go_wp2_with fail
  go_ret
  exact ⟨by simp, HX.out.1⟩
end Go.Proofs.YtlcdlegdnibcaaaDoor
