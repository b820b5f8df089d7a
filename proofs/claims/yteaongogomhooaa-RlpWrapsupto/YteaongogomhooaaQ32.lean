/- RlpDecodes' walk: which item bytes are, or that they are none. -/
import Derived.Test.YteaongogomhooaaQ31
namespace Go.Proofs.Yteaongogomhooaa
open Go.RowKit Go.Shelf Go.Sort

mutual
theorem inMem_mono {n m : Nat} (h : n ≤ m) {W : World} : ∀ x, inMem n W x → inMem m W x
  | .mk _ _ a _ xs, hm => rowMem_mono h a 0 xs hm
theorem rowMem_mono {n m : Nat} (h : n ≤ m) {W : World} (a : Option Addr) : ∀ i xs, rowMem n W a i xs → rowMem m W a i xs
  | _, [], _ => trivial
  | i, x :: r, ⟨⟨b, o, h0, h1⟩, h5, h6⟩ => ⟨⟨b, o, by omega, h1⟩, inMem_mono h x h5, rowMem_mono h a (i + 1) r h6⟩
end
theorem decR_same {s : ByteArray} {x y : Im} {e f : Int} (hx : DecR s x e) (hy : DecR s y f) : e = f ∧ er x = er y := by
  rcases hx with ⟨h1, rfl, rfl⟩ | ⟨h1, h2, rfl, rfl⟩ | ⟨h1, x', h2, h3⟩
  · rcases hy with ⟨k1, rfl, rfl⟩ | ⟨k1, k2, rfl, rfl⟩ | ⟨k1, y', k2, k3⟩
    · exact ⟨rfl, rfl⟩
    · omega
    · omega
  · rcases hy with ⟨k1, rfl, rfl⟩ | ⟨k1, k2, rfl, rfl⟩ | ⟨k1, y', k2, k3⟩
    · omega
    · exact ⟨rfl, rfl⟩
    · exact absurd k2 (h2 _)
  · rcases hy with ⟨k1, rfl, rfl⟩ | ⟨k1, k2, rfl, rfl⟩ | ⟨k1, y', k2, k3⟩
    · omega
    · exact absurd h2 (k2 _)
    · have he : er x' = er y' := by
        rw [h2] at k2
        injection k2 with k2
        injection k2
      have hd : deep x' = deep y' := by rw [deep_er, deep_er, he]
      rcases h3 with ⟨a1, rfl, rfl⟩ | ⟨a1, rfl, rfl⟩
      · rcases k3 with ⟨b1, rfl, rfl⟩ | ⟨b1, rfl, rfl⟩
        · exact ⟨rfl, rfl⟩
        · rw [hd, b1] at a1; cases a1
      · rcases k3 with ⟨b1, rfl, rfl⟩ | ⟨b1, rfl, rfl⟩
        · rw [hd, b1] at a1; cases a1
        · exact ⟨rfl, he⟩
theorem decR_cnt {s : ByteArray} {x : Im} {e : Int} (hx : DecR s x e) : cnt x ≤ 65537 := by
  rcases hx with ⟨h1, rfl, rfl⟩ | ⟨h1, h2, rfl, rfl⟩ | ⟨h1, x', h2, h3⟩
  · show 1 ≤ _; omega
  · show 1 ≤ _; omega
  · rcases h3 with ⟨a1, rfl, rfl⟩ | ⟨a1, rfl, rfl⟩
    · show 1 ≤ _; omega
    · have := cnt_one h2
      omega
set_option maxRecDepth 20000 in
set_option maxHeartbeats 2000000 in
theorem decode_all (s : ByteArray) (w : World) :
    Calls Try.prog 15 #[.string s] w fun r w' => Below w.heap.size w w' ∧ ∃ x e, r = .returned (.tuple #[x.val, .int .i64 e]) ∧ DecR s x e ∧ inMem w'.heap.size w' x := by
  by_cases h0 : 65536 < s.size
  · have A1 : Below w.heap.size w (w.alloc (.cells #[.bool false, .string ⟨#[]⟩, .slice none 0 0] 24)) := (Below.refl _ w).alloc (Nat.le_refl _) _
    have l0 : (65536 : Int) < s.size := by omega
    go_enter Try.func15, Try.ntmps15
    go_wp2
    refine bodyPost_ret (v := .tuple #[.agg #[.bool false, .string ⟨#[]⟩, .slice none 0 0], .int .i64 42]) (by simp [results, Try.results15, go_sem]) rfl ⟨A1, zeroI, 42, rfl, .inl ⟨h0, rfl, rfl⟩, trivial⟩
  · exact decode_any s (fun y hy => by have := cnt_one hy; omega) w

set_option maxRecDepth 20000 in
set_option maxHeartbeats 2000000 in
theorem decodes_any (s : ByteArray) (w : World) :
    Calls Try.prog 4 #[.string s] w fun e w' => e = .returned (.bool true) ∧ Below w.heap.size w w' := by
  have K0 := shown_any
  have K1 := decode_all s
  have K2 := rdecode_any s
  go_enter Try.func4, Try.ntmps4
  go_wp2_with fail
  refine (K0 _).mono ?_
  rintro e0 w1 ⟨rfl, B1⟩
  go_wp2_with fail
  refine (K1 _).mono ?_
  rintro e0 w2 ⟨B2, x, e, rfl, hx, hmx⟩
  have BW := belowStep B1 B1.size B2
  clear B1 B2 K1 K0
  obtain ⟨xl, xt, xa, xc, xx⟩ := x
  dsimp only [Im.val, Im.l, Im.t, Im.sl, Im.a, Im.xs, Im.c]
  have hb2 : ItIn w2.heap.size (.mk xl xt xa xc xx) (w2.alloc (.cells #[.bool xl, .string xt, .slice xa xx.length xc] 24)) := World.alloc_heap_new w2 _
  have A2 : Below w2.heap.size w2 (w2.alloc (.cells #[.bool xl, .string xt, .slice xa xx.length xc] 24)) := (Below.refl _ w2).alloc (Nat.le_refl _) _
  go_wp2_with fail
  refine (K2 _).mono ?_
  rintro e0 w3 ⟨B3, y, f, rfl, hy, hmy⟩
  have B23 := belowStep A2 (by simp) B3
  have hb3 : ItIn w2.heap.size (.mk xl xt xa xc xx) w3 := (B3.block _ (by simp)).trans hb2
  replace hmx := inMem_below (Nat.le_refl _) B23 _ hmx
  replace BW := belowStep BW BW.size B23
  obtain ⟨rfl, hsame⟩ := decR_same hx hy
  have hcx := decR_cnt hx
  clear hb2 A2 B3 K2 hx hy
  have hs23 := B23.size
  have hA3 : Below w3.heap.size w3 (w3.alloc (.cells #[.bool y.l, .string y.t, y.sl] 24)) := (Below.refl _ w3).alloc (Nat.le_refl _) _
  have hby : ItIn w3.heap.size y (w3.alloc (.cells #[.bool y.l, .string y.t, y.sl] 24)) := World.alloc_heap_new w3 _
  have hbx : ItIn w2.heap.size (.mk xl xt xa xc xx) (w3.alloc (.cells #[.bool y.l, .string y.t, y.sl] 24)) := (hA3.block _ hb3.lt).trans hb3
  replace hmx := inMem_below (Nat.le_refl _) hA3 _ (inMem_mono hs23 _ hmx)
  replace hmy := inMem_below (Nat.le_refl _) hA3 _ hmy
  replace BW := belowStep BW BW.size hA3
  have hs3 := hA3.size
  have hl2 := hbx.lt
  have hl3 := hby.lt
  have KS := fun w hn hm hm2 => rsame_any 100000 (.mk xl xt xa xc xx) y (by omega) (by omega) w3.heap.size w hn hm hm2
  rw [hsame, smI_refl] at KS
  clear hsame hcx hA3 hb3 B23
  obtain ⟨yl, yt, ya, yc, yx⟩ := y
  dsimp only [Im.val, Im.l, Im.t, Im.sl, Im.a, Im.xs, Im.c] at KS BW hby hbx hmx hmy hs3 hl2 hl3 ⊢
  obtain ⟨w4, hw4⟩ : ∃ q, w3.alloc (.cells #[.bool yl, .string yt, .slice ya yx.length yc] 24) = q := ⟨_, rfl⟩
  rw [hw4] at BW hby hbx hmx hmy hs3 hl2 hl3
  have q0 : w4.cell? ⟨w2.heap.size, 0, none⟩ = some (.bool xl) := by rw [Lib.cell_of_heap hbx]; rfl
  have q1 : w4.cell? ⟨w2.heap.size, 1, none⟩ = some (.string xt) := by rw [Lib.cell_of_heap hbx]; rfl
  have q2 : w4.cell? ⟨w2.heap.size, 2, none⟩ = some (.slice xa xx.length xc) := by rw [Lib.cell_of_heap hbx]; rfl
  have q3 : w4.cell? ⟨w3.heap.size, 0, none⟩ = some (.bool yl) := by rw [Lib.cell_of_heap hby]; rfl
  have q4 : w4.cell? ⟨w3.heap.size, 1, none⟩ = some (.string yt) := by rw [Lib.cell_of_heap hby]; rfl
  have q5 : w4.cell? ⟨w3.heap.size, 2, none⟩ = some (.slice ya yx.length yc) := by rw [Lib.cell_of_heap hby]; rfl
  have HX : Hid (_ ∧ _) := ⟨hmx, hmy⟩
  clear hmx hmy hbx hby
  go_wp2_with fail
  refine (KS _ hs3 HX.out.1 HX.out.2).mono ?_
  rintro e0 w5 ⟨rfl, B5⟩
  replace BW := belowStep BW BW.size B5
  clear KS q0 q1 q2 q3 q4 q5 HX
  go_wp2
  go_ret
  exact ⟨rfl, BW⟩
end Go.Proofs.Yteaongogomhooaa
