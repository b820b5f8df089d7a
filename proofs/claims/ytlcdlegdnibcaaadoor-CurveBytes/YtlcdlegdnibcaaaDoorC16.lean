/- The walk of CurveBack. No condition. -/
import Derived.Test.YtlcdlegdnibcaaaDoorC15
import Derived.Test.YtlcdlegdnibcaaaDoorC9
namespace Go.Proofs.YtlcdlegdnibcaaaDoor
open Go.RowKit Go.Shelf Go.Sort

abbrev tupS (t : ByteArray) (c : Int) : Value := .tuple #[.string t, .int .i64 c]
theorem byt_tup (p : Pt) : ∃ t c, bytV p = tupS t c := by
  unfold bytV; split
  · exact ⟨_, _, rfl⟩
  · exact ⟨_, _, rfl⟩
theorem fr_tup (s : ByteArray) : ∃ r c, frV s = tup r c := by
  unfold frV; split
  · exact ⟨_, _, rfl⟩
  · exact ⟨_, _, rfl⟩
theorem ut_o : UT oP := ⟨by decide, by decide⟩
/-- What the bytes of a point, read again, are. -/
theorem back_one (p : Pt) : ∃ a c q d, bytV p = tupS a c ∧ frV a = tup q d ∧ ((c = 0 ∧ d = 0 ∧ q = p ∧ a.size = 5) ∨ c = 100) := by
  cases hg : grN p
  · refine ⟨⟨#[]⟩, 100, oP, 100, by unfold bytV; rw [hg]; rfl, ?_, .inr rfl⟩
    exact fr_short _ (by decide)
  · refine ⟨txF (fsN p) p.X, 0, p, 0, by unfold bytV; rw [hg]; rfl, fr_back p hg, .inl ⟨rfl, rfl, rfl, tx_size _ _⟩⟩
/-- What is read, written again. -/
theorem back_two (s : ByteArray) : ∃ r c b d, frV s = tup r c ∧ UT r ∧ bytV r = tupS b d ∧ ((c = 0 ∧ d = 0 ∧ b = s ∧ grN r = true) ∨ c = 100) := by
  cases hb : frB s
  · obtain ⟨b, d, e⟩ := byt_tup oP
    exact ⟨oP, 100, b, d, by unfold frV; rw [hb]; rfl, ut_o, e, .inr rfl⟩
  · have h := hb
    unfold frB at h
    simp only [Bool.and_eq_true, decide_eq_true_eq] at h
    refine ⟨nmN s, 0, s, 0, by unfold frV; rw [hb]; rfl, ut_nm s, ?_, .inl ⟨rfl, rfl, rfl, h.1.2⟩⟩
    unfold bytV
    rw [h.1.2, if_pos rfl, h.2]

set_option maxRecDepth 20000 in
set_option maxHeartbeats 8000000 in
theorem cback_any (p : Pt) (s : ByteArray) (hp : UT p) (w : World) (hL : Li w) :
    Calls Tryd.prog 7 #[vT p, .string s] w fun e w' => e = .returned (.bool true) ∧ Below w.heap.size w w' := by
  obtain ⟨a, c, q, d, e1, e2, h1⟩ := back_one p
  obtain ⟨r, c', b, d', e3, ur, e4, h2⟩ := back_two s
  have C1 := bytes_any p hp
  have C2 := from_any a
  have C3 := from_any s
  have C4 := bytes_any r ur
  have C5 := ingroup_any r ur
  rw [e1] at C1
  rw [e2] at C2
  rw [e3] at C3
  rw [e4] at C4
  clear e1 e2 e3 e4
  obtain ⟨gr, hgr⟩ : ∃ x, grN r = x := ⟨_, rfl⟩
  rw [hgr] at C5 h2
  clear hgr
  have E1 := eqlT p q
  rcases h1 with ⟨c0, d0, hq, ha⟩ | c0
  · rw [c0] at C1
    rw [d0, hq] at C2
    rw [hq, decide_eq_true rfl] at E1
    clear c0 d0 hq q d c
    rcases h2 with ⟨c1, d1, hb, hg⟩ | c1
    · rw [c1] at C3
      rw [d1, hb] at C4
      rw [hg] at C5
      clear c1 d1 hb hg c' b d' gr
      go_enter Tryd.func7, Tryd.ntmps7
      go_wp2_with fail
      refine callsOf (fun W => Below w.heap.size w W ∧ Tb w.heap.size p W ∧ Li W) ⟨by go_grown, Tb.new' w p 24 _ rfl, (hL).alloc _⟩ ?_
      rintro w0 ⟨BV, h0, LV⟩
      refine (shown_any _ LV).mono ?_
      rintro e w1 ⟨rfl, B1⟩
      have g0 := h0.below B1
      have LG := LV.below B1
      have BG := belowStep BV BV.size B1
      clear h0 LV BV B1
      have ⟨z0, a0, b0, c0, f0⟩ := g0
      have HX : Hid (_ ∧ _ ∧ _) := ⟨BG, g0, LG⟩
      clear BG LG g0
      go_wp2_with fail
      obtain ⟨BV, h0, LV⟩ := HX.out
      clear HX z0 a0 b0 c0 f0
      refine (C1 _ LV).mono ?_
      rintro e w2 ⟨rfl, B2⟩
      have g0 := h0.below B2
      have LG := LV.below B2
      have BG := belowStep BV BV.size B2
      clear h0 LV BV B2
      have ⟨z0, a0, b0, c0, f0⟩ := g0
      have HX : Hid (_ ∧ _ ∧ _) := ⟨BG, g0, LG⟩
      clear BG LG g0
      go_wp2_with fail
      obtain ⟨BV, h0, LV⟩ := HX.out
      clear HX z0 a0 b0 c0 f0
      refine (C2 _ LV).mono ?_
      rintro e w3 ⟨rfl, B3⟩
      have g0 := h0.below B3
      have LG := LV.below B3
      have BG := belowStep BV BV.size B3
      clear h0 LV BV B3
      have ⟨z0, a0, b0, c0, f0⟩ := g0
      have HX : Hid (_ ∧ _ ∧ _ ∧ _) := ⟨BG.alloc BG.size (bxP p), g0.alloc (bxP p), Tb.new' w3 p 24 _ rfl, LG.alloc (bxP p)⟩
      clear BG LG g0
      go_wp2_with fail
      refine callsOf (fun W => Below w.heap.size w W ∧ Tb w.heap.size p W ∧ Tb w3.heap.size p W ∧ Li W) HX.out ?_
      rintro v3 ⟨BV, h0, h1, LV⟩
      obtain ⟨n1, hn⟩ : ∃ n, w3.heap.size = n := ⟨_, rfl⟩
      rw [hn] at h1 ⊢
      clear HX hn z0 a0 b0 c0 f0 w3
      refine (C3 _ LV).mono ?_
      rintro e w4 ⟨rfl, B4⟩
      have g0 := h0.below B4
      have g1 := h1.below B4
      have LG := LV.below B4
      have BG := belowStep BV BV.size B4
      clear h0 h1 LV BV B4
      have ⟨z0, a0, b0, c0, f0⟩ := g0
      have ⟨z1, a1, b1, c1, f1⟩ := g1
      have HX : Hid (_ ∧ _ ∧ _ ∧ _ ∧ _) := ⟨BG.alloc BG.size (bxP r), g0.alloc (bxP r), g1.alloc (bxP r), Tb.new' w4 r 24 _ rfl, LG.alloc (bxP r)⟩
      clear BG LG g0 g1
      go_wp2_with fail
      refine callsOf (fun W => Below w.heap.size w W ∧ Tb w.heap.size p W ∧ Tb n1 p W ∧ Tb w4.heap.size r W ∧ Li W) HX.out ?_
      rintro v4 ⟨BV, h0, h1, h2, LV⟩
      obtain ⟨n2, hn⟩ : ∃ n, w4.heap.size = n := ⟨_, rfl⟩
      rw [hn] at h2 ⊢
      clear HX hn z0 a0 b0 c0 f0 z1 a1 b1 c1 f1 w4
      refine (C4 _ LV).mono ?_
      rintro e w5 ⟨rfl, B5⟩
      have g0 := h0.below B5
      have g1 := h1.below B5
      have g2 := h2.below B5
      have LG := LV.below B5
      have BG := belowStep BV BV.size B5
      clear h0 h1 h2 LV BV B5
      have ⟨z0, a0, b0, c0, f0⟩ := g0
      have ⟨z1, a1, b1, c1, f1⟩ := g1
      have ⟨z2, a2, b2, c2, f2⟩ := g2
      have HX : Hid (_ ∧ _ ∧ _ ∧ _ ∧ _) := ⟨BG, g0, g1, g2, LG⟩
      clear BG LG g0 g1 g2
      go_wp2_with fail
      obtain ⟨BV, h0, h1, h2, LV⟩ := HX.out
      clear HX z0 a0 b0 c0 f0 z1 a1 b1 c1 f1 z2 a2 b2 c2 f2
      refine (C5 _ LV).mono ?_
      rintro e w6 ⟨rfl, B6⟩
      have g0 := h0.below B6
      have g1 := h1.below B6
      have g2 := h2.below B6
      have LG := LV.below B6
      have BG := belowStep BV BV.size B6
      clear h0 h1 h2 LV BV B6
      have ⟨z0, a0, b0, c0, f0⟩ := g0
      have ⟨z1, a1, b1, c1, f1⟩ := g1
      have ⟨z2, a2, b2, c2, f2⟩ := g2
      have HX : Hid (_ ∧ _ ∧ _ ∧ _ ∧ _) := ⟨BG, g0, g1, g2, LG⟩
      clear BG LG g0 g1 g2
      go_wp2_with fail
      obtain ⟨BV, h0, h1, h2, LV⟩ := HX.out
      go_ret
      exact ⟨by simp, BV⟩
    · rw [c1] at C3
      clear c1 c'
      go_enter Tryd.func7, Tryd.ntmps7
      go_wp2_with fail
      refine callsOf (fun W => Below w.heap.size w W ∧ Tb w.heap.size p W ∧ Li W) ⟨by go_grown, Tb.new' w p 24 _ rfl, (hL).alloc _⟩ ?_
      rintro w0 ⟨BV, h0, LV⟩
      refine (shown_any _ LV).mono ?_
      rintro e w1 ⟨rfl, B1⟩
      have g0 := h0.below B1
      have LG := LV.below B1
      have BG := belowStep BV BV.size B1
      clear h0 LV BV B1
      have ⟨z0, a0, b0, c0, f0⟩ := g0
      have HX : Hid (_ ∧ _ ∧ _) := ⟨BG, g0, LG⟩
      clear BG LG g0
      go_wp2_with fail
      obtain ⟨BV, h0, LV⟩ := HX.out
      clear HX z0 a0 b0 c0 f0
      refine (C1 _ LV).mono ?_
      rintro e w2 ⟨rfl, B2⟩
      have g0 := h0.below B2
      have LG := LV.below B2
      have BG := belowStep BV BV.size B2
      clear h0 LV BV B2
      have ⟨z0, a0, b0, c0, f0⟩ := g0
      have HX : Hid (_ ∧ _ ∧ _) := ⟨BG, g0, LG⟩
      clear BG LG g0
      go_wp2_with fail
      obtain ⟨BV, h0, LV⟩ := HX.out
      clear HX z0 a0 b0 c0 f0
      refine (C2 _ LV).mono ?_
      rintro e w3 ⟨rfl, B3⟩
      have g0 := h0.below B3
      have LG := LV.below B3
      have BG := belowStep BV BV.size B3
      clear h0 LV BV B3
      have ⟨z0, a0, b0, c0, f0⟩ := g0
      have HX : Hid (_ ∧ _ ∧ _ ∧ _) := ⟨BG.alloc BG.size (bxP p), g0.alloc (bxP p), Tb.new' w3 p 24 _ rfl, LG.alloc (bxP p)⟩
      clear BG LG g0
      go_wp2_with fail
      refine callsOf (fun W => Below w.heap.size w W ∧ Tb w.heap.size p W ∧ Tb w3.heap.size p W ∧ Li W) HX.out ?_
      rintro v3 ⟨BV, h0, h1, LV⟩
      obtain ⟨n1, hn⟩ : ∃ n, w3.heap.size = n := ⟨_, rfl⟩
      rw [hn] at h1 ⊢
      clear HX hn z0 a0 b0 c0 f0 w3
      refine (C3 _ LV).mono ?_
      rintro e w4 ⟨rfl, B4⟩
      have g0 := h0.below B4
      have g1 := h1.below B4
      have LG := LV.below B4
      have BG := belowStep BV BV.size B4
      clear h0 h1 LV BV B4
      have ⟨z0, a0, b0, c0, f0⟩ := g0
      have ⟨z1, a1, b1, c1, f1⟩ := g1
      have HX : Hid (_ ∧ _ ∧ _ ∧ _ ∧ _) := ⟨BG.alloc BG.size (bxP r), g0.alloc (bxP r), g1.alloc (bxP r), Tb.new' w4 r 24 _ rfl, LG.alloc (bxP r)⟩
      clear BG LG g0 g1
      go_wp2_with fail
      refine callsOf (fun W => Below w.heap.size w W ∧ Tb w.heap.size p W ∧ Tb n1 p W ∧ Tb w4.heap.size r W ∧ Li W) HX.out ?_
      rintro v4 ⟨BV, h0, h1, h2, LV⟩
      obtain ⟨n2, hn⟩ : ∃ n, w4.heap.size = n := ⟨_, rfl⟩
      rw [hn] at h2 ⊢
      clear HX hn z0 a0 b0 c0 f0 z1 a1 b1 c1 f1 w4
      refine (C4 _ LV).mono ?_
      rintro e w5 ⟨rfl, B5⟩
      have g0 := h0.below B5
      have g1 := h1.below B5
      have g2 := h2.below B5
      have LG := LV.below B5
      have BG := belowStep BV BV.size B5
      clear h0 h1 h2 LV BV B5
      have ⟨z0, a0, b0, c0, f0⟩ := g0
      have ⟨z1, a1, b1, c1, f1⟩ := g1
      have ⟨z2, a2, b2, c2, f2⟩ := g2
      have HX : Hid (_ ∧ _ ∧ _ ∧ _ ∧ _) := ⟨BG, g0, g1, g2, LG⟩
      clear BG LG g0 g1 g2
      go_wp2_with fail
      obtain ⟨BV, h0, h1, h2, LV⟩ := HX.out
      go_ret
      exact ⟨by simp, BV⟩
  · rw [c0] at C1
    clear c0 c E1
    rcases h2 with ⟨c1, d1, hb, hg⟩ | c1
    · rw [c1] at C3
      rw [d1, hb] at C4
      rw [hg] at C5
      clear c1 d1 hb hg c' b d' gr
      go_enter Tryd.func7, Tryd.ntmps7
      go_wp2_with fail
      refine callsOf (fun W => Below w.heap.size w W ∧ Tb w.heap.size p W ∧ Li W) ⟨by go_grown, Tb.new' w p 24 _ rfl, (hL).alloc _⟩ ?_
      rintro w0 ⟨BV, h0, LV⟩
      refine (shown_any _ LV).mono ?_
      rintro e w1 ⟨rfl, B1⟩
      have g0 := h0.below B1
      have LG := LV.below B1
      have BG := belowStep BV BV.size B1
      clear h0 LV BV B1
      have ⟨z0, a0, b0, c0, f0⟩ := g0
      have HX : Hid (_ ∧ _ ∧ _) := ⟨BG, g0, LG⟩
      clear BG LG g0
      go_wp2_with fail
      obtain ⟨BV, h0, LV⟩ := HX.out
      clear HX z0 a0 b0 c0 f0
      refine (C1 _ LV).mono ?_
      rintro e w2 ⟨rfl, B2⟩
      have g0 := h0.below B2
      have LG := LV.below B2
      have BG := belowStep BV BV.size B2
      clear h0 LV BV B2
      have ⟨z0, a0, b0, c0, f0⟩ := g0
      have HX : Hid (_ ∧ _ ∧ _) := ⟨BG, g0, LG⟩
      clear BG LG g0
      go_wp2_with fail
      obtain ⟨BV, h0, LV⟩ := HX.out
      clear HX z0 a0 b0 c0 f0
      refine (C2 _ LV).mono ?_
      rintro e w3 ⟨rfl, B3⟩
      have g0 := h0.below B3
      have LG := LV.below B3
      have BG := belowStep BV BV.size B3
      clear h0 LV BV B3
      have ⟨z0, a0, b0, c0, f0⟩ := g0
      have HX : Hid (_ ∧ _ ∧ _ ∧ _) := ⟨BG.alloc BG.size (bxP q), g0.alloc (bxP q), Tb.new' w3 q 24 _ rfl, LG.alloc (bxP q)⟩
      clear BG LG g0
      go_wp2_with fail
      refine callsOf (fun W => Below w.heap.size w W ∧ Tb w.heap.size p W ∧ Tb w3.heap.size q W ∧ Li W) HX.out ?_
      rintro v3 ⟨BV, h0, h1, LV⟩
      obtain ⟨n1, hn⟩ : ∃ n, w3.heap.size = n := ⟨_, rfl⟩
      rw [hn] at h1 ⊢
      clear HX hn z0 a0 b0 c0 f0 w3
      refine (C3 _ LV).mono ?_
      rintro e w4 ⟨rfl, B4⟩
      have g0 := h0.below B4
      have g1 := h1.below B4
      have LG := LV.below B4
      have BG := belowStep BV BV.size B4
      clear h0 h1 LV BV B4
      have ⟨z0, a0, b0, c0, f0⟩ := g0
      have ⟨z1, a1, b1, c1, f1⟩ := g1
      have HX : Hid (_ ∧ _ ∧ _ ∧ _ ∧ _) := ⟨BG.alloc BG.size (bxP r), g0.alloc (bxP r), g1.alloc (bxP r), Tb.new' w4 r 24 _ rfl, LG.alloc (bxP r)⟩
      clear BG LG g0 g1
      go_wp2_with fail
      refine callsOf (fun W => Below w.heap.size w W ∧ Tb w.heap.size p W ∧ Tb n1 q W ∧ Tb w4.heap.size r W ∧ Li W) HX.out ?_
      rintro v4 ⟨BV, h0, h1, h2, LV⟩
      obtain ⟨n2, hn⟩ : ∃ n, w4.heap.size = n := ⟨_, rfl⟩
      rw [hn] at h2 ⊢
      clear HX hn z0 a0 b0 c0 f0 z1 a1 b1 c1 f1 w4
      refine (C4 _ LV).mono ?_
      rintro e w5 ⟨rfl, B5⟩
      have g0 := h0.below B5
      have g1 := h1.below B5
      have g2 := h2.below B5
      have LG := LV.below B5
      have BG := belowStep BV BV.size B5
      clear h0 h1 h2 LV BV B5
      have ⟨z0, a0, b0, c0, f0⟩ := g0
      have ⟨z1, a1, b1, c1, f1⟩ := g1
      have ⟨z2, a2, b2, c2, f2⟩ := g2
      have HX : Hid (_ ∧ _ ∧ _ ∧ _ ∧ _) := ⟨BG, g0, g1, g2, LG⟩
      clear BG LG g0 g1 g2
      go_wp2_with fail
      obtain ⟨BV, h0, h1, h2, LV⟩ := HX.out
      clear HX z0 a0 b0 c0 f0 z1 a1 b1 c1 f1 z2 a2 b2 c2 f2
      refine (C5 _ LV).mono ?_
      rintro e w6 ⟨rfl, B6⟩
      have g0 := h0.below B6
      have g1 := h1.below B6
      have g2 := h2.below B6
      have LG := LV.below B6
      have BG := belowStep BV BV.size B6
      clear h0 h1 h2 LV BV B6
      have ⟨z0, a0, b0, c0, f0⟩ := g0
      have ⟨z1, a1, b1, c1, f1⟩ := g1
      have ⟨z2, a2, b2, c2, f2⟩ := g2
      have HX : Hid (_ ∧ _ ∧ _ ∧ _ ∧ _) := ⟨BG, g0, g1, g2, LG⟩
      clear BG LG g0 g1 g2
      go_wp2_with fail
      obtain ⟨BV, h0, h1, h2, LV⟩ := HX.out
      go_ret
      exact ⟨by simp, BV⟩
    · rw [c1] at C3
      clear c1 c'
      go_enter Tryd.func7, Tryd.ntmps7
      go_wp2_with fail
      refine callsOf (fun W => Below w.heap.size w W ∧ Tb w.heap.size p W ∧ Li W) ⟨by go_grown, Tb.new' w p 24 _ rfl, (hL).alloc _⟩ ?_
      rintro w0 ⟨BV, h0, LV⟩
      refine (shown_any _ LV).mono ?_
      rintro e w1 ⟨rfl, B1⟩
      have g0 := h0.below B1
      have LG := LV.below B1
      have BG := belowStep BV BV.size B1
      clear h0 LV BV B1
      have ⟨z0, a0, b0, c0, f0⟩ := g0
      have HX : Hid (_ ∧ _ ∧ _) := ⟨BG, g0, LG⟩
      clear BG LG g0
      go_wp2_with fail
      obtain ⟨BV, h0, LV⟩ := HX.out
      clear HX z0 a0 b0 c0 f0
      refine (C1 _ LV).mono ?_
      rintro e w2 ⟨rfl, B2⟩
      have g0 := h0.below B2
      have LG := LV.below B2
      have BG := belowStep BV BV.size B2
      clear h0 LV BV B2
      have ⟨z0, a0, b0, c0, f0⟩ := g0
      have HX : Hid (_ ∧ _ ∧ _) := ⟨BG, g0, LG⟩
      clear BG LG g0
      go_wp2_with fail
      obtain ⟨BV, h0, LV⟩ := HX.out
      clear HX z0 a0 b0 c0 f0
      refine (C2 _ LV).mono ?_
      rintro e w3 ⟨rfl, B3⟩
      have g0 := h0.below B3
      have LG := LV.below B3
      have BG := belowStep BV BV.size B3
      clear h0 LV BV B3
      have ⟨z0, a0, b0, c0, f0⟩ := g0
      have HX : Hid (_ ∧ _ ∧ _ ∧ _) := ⟨BG.alloc BG.size (bxP q), g0.alloc (bxP q), Tb.new' w3 q 24 _ rfl, LG.alloc (bxP q)⟩
      clear BG LG g0
      go_wp2_with fail
      refine callsOf (fun W => Below w.heap.size w W ∧ Tb w.heap.size p W ∧ Tb w3.heap.size q W ∧ Li W) HX.out ?_
      rintro v3 ⟨BV, h0, h1, LV⟩
      obtain ⟨n1, hn⟩ : ∃ n, w3.heap.size = n := ⟨_, rfl⟩
      rw [hn] at h1 ⊢
      clear HX hn z0 a0 b0 c0 f0 w3
      refine (C3 _ LV).mono ?_
      rintro e w4 ⟨rfl, B4⟩
      have g0 := h0.below B4
      have g1 := h1.below B4
      have LG := LV.below B4
      have BG := belowStep BV BV.size B4
      clear h0 h1 LV BV B4
      have ⟨z0, a0, b0, c0, f0⟩ := g0
      have ⟨z1, a1, b1, c1, f1⟩ := g1
      have HX : Hid (_ ∧ _ ∧ _ ∧ _ ∧ _) := ⟨BG.alloc BG.size (bxP r), g0.alloc (bxP r), g1.alloc (bxP r), Tb.new' w4 r 24 _ rfl, LG.alloc (bxP r)⟩
      clear BG LG g0 g1
      go_wp2_with fail
      refine callsOf (fun W => Below w.heap.size w W ∧ Tb w.heap.size p W ∧ Tb n1 q W ∧ Tb w4.heap.size r W ∧ Li W) HX.out ?_
      rintro v4 ⟨BV, h0, h1, h2, LV⟩
      obtain ⟨n2, hn⟩ : ∃ n, w4.heap.size = n := ⟨_, rfl⟩
      rw [hn] at h2 ⊢
      clear HX hn z0 a0 b0 c0 f0 z1 a1 b1 c1 f1 w4
      refine (C4 _ LV).mono ?_
      rintro e w5 ⟨rfl, B5⟩
      have g0 := h0.below B5
      have g1 := h1.below B5
      have g2 := h2.below B5
      have LG := LV.below B5
      have BG := belowStep BV BV.size B5
      clear h0 h1 h2 LV BV B5
      have ⟨z0, a0, b0, c0, f0⟩ := g0
      have ⟨z1, a1, b1, c1, f1⟩ := g1
      have ⟨z2, a2, b2, c2, f2⟩ := g2
      have HX : Hid (_ ∧ _ ∧ _ ∧ _ ∧ _) := ⟨BG, g0, g1, g2, LG⟩
      clear BG LG g0 g1 g2
      go_wp2_with fail
      obtain ⟨BV, h0, h1, h2, LV⟩ := HX.out
      go_ret
      exact ⟨by simp, BV⟩
end Go.Proofs.YtlcdlegdnibcaaaDoor
