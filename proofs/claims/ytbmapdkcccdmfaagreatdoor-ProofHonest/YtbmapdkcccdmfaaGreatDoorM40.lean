/- Nodes in memory; formOf, newNode, standsWithin. -/
import Derived.Test.YtbmapdkcccdmfaaGreatDoorM1
import Derived.Test.YtbmapdkcccdmfaaGreatDoorM10
import Derived.Test.YtbmapdkcccdmfaaGreatDoorM11
import Derived.Test.YtbmapdkcccdmfaaGreatDoorM12
import Derived.Test.YtbmapdkcccdmfaaGreatDoorM13
import Derived.Test.YtbmapdkcccdmfaaGreatDoorM14
import Derived.Test.YtbmapdkcccdmfaaGreatDoorM15
import Derived.Test.YtbmapdkcccdmfaaGreatDoorM17
import Derived.Test.YtbmapdkcccdmfaaGreatDoorM18
import Derived.Test.YtbmapdkcccdmfaaGreatDoorM19
import Derived.Test.YtbmapdkcccdmfaaGreatDoorM2
import Derived.Test.YtbmapdkcccdmfaaGreatDoorM20
import Derived.Test.YtbmapdkcccdmfaaGreatDoorM21
import Derived.Test.YtbmapdkcccdmfaaGreatDoorM22
import Derived.Test.YtbmapdkcccdmfaaGreatDoorM23
import Derived.Test.YtbmapdkcccdmfaaGreatDoorM24
import Derived.Test.YtbmapdkcccdmfaaGreatDoorM25
import Derived.Test.YtbmapdkcccdmfaaGreatDoorM26
import Derived.Test.YtbmapdkcccdmfaaGreatDoorM3
import Derived.Test.YtbmapdkcccdmfaaGreatDoorM32
import Derived.Test.YtbmapdkcccdmfaaGreatDoorM33
import Derived.Test.YtbmapdkcccdmfaaGreatDoorM34
import Derived.Test.YtbmapdkcccdmfaaGreatDoorM35
import Derived.Test.YtbmapdkcccdmfaaGreatDoorM36
import Derived.Test.YtbmapdkcccdmfaaGreatDoorM37
import Derived.Test.YtbmapdkcccdmfaaGreatDoorM38
import Derived.Test.YtbmapdkcccdmfaaGreatDoorM4
import Derived.Test.YtbmapdkcccdmfaaGreatDoorM6
import Derived.Test.YtbmapdkcccdmfaaGreatDoorM7
import Derived.Test.YtbmapdkcccdmfaaGreatDoorM8
import Derived.Test.YtbmapdkcccdmfaaGreatDoorM9
import Derived.Test.YtbmapdkcccdmfaaGreatDoorRows
namespace Go.Proofs.YtbmapdkcccdmfaaGreatDoor
open Go.RowKit Go.Shelf Go.Sort

mutual
inductive Nd where
 | mk (x : It) (ss : Sts)
inductive Sts where
 | nil
 | cons (p : ByteArray) (n : Nd) (r : Sts)
end
namespace Nd
def x : Nd → It | .mk x _ => x
def ss : Nd → Sts | .mk _ ss => ss
end Nd
def Sts.len : Sts → Nat
 | .nil => 0
 | .cons _ _ r => r.len + 1
def refI (x : It) : It := if (eS x).size < 32 then x else .mk false (sumOf (eS x)) []
mutual
def ndIn (p : Nat → Prop) (W : World) (b : Nat) : Nd → Prop
 | .mk x ss => ∃ (im : Im) (a : Option Addr) (c : Nat), p b ∧ W.heap[b]? = some (.cells #[.bool im.l, .string im.t, im.sl, .string (eS x), .slice a ss.len c] 61 (0, 0)) ∧ er im = x ∧ inP p W im ∧ stIn (fun q => p q ∧ q < b) W a 0 ss
def stIn (p : Nat → Prop) (W : World) (a : Option Addr) : Nat → Sts → Prop
 | _, .nil => True
 | i, .cons t n r => (∃ b o b', p b ∧ a = some ⟨b, o, none⟩ ∧ W.cell? ⟨b, o + 2 * i, none⟩ = some (.string t) ∧ W.cell? ⟨b, o + 2 * i + 1, none⟩ = some (.pointer (some ⟨b', 0, none⟩)) ∧ ndIn p W b' n) ∧ stIn p W a (i + 1) r
end
mutual
theorem ndIn_of {p q : Nat → Prop} {W W' : World} (hp : ∀ b, p b → q b ∧ W'.heap[b]? = W.heap[b]?) : ∀ (n : Nd) (b : Nat), ndIn p W b n → ndIn q W' b n
 | .mk _ ss, b, ⟨im, a, c, h1, h2, h3, h4, h5⟩ => ⟨im, a, c, (hp b h1).1, (hp b h1).2.trans h2, h3, inP_of (fun b hb => ⟨(hp b hb).1, fun k => World.cell?_of_block (w := W) (a := ⟨b, k, none⟩) (hp b hb).2⟩) im h4, stIn_of (fun q hq => ⟨⟨(hp q hq.1).1, hq.2⟩, (hp q hq.1).2⟩) ss a 0 h5⟩
theorem stIn_of {p q : Nat → Prop} {W W' : World} (hp : ∀ b, p b → q b ∧ W'.heap[b]? = W.heap[b]?) : ∀ (s : Sts) (a : Option Addr) (i : Nat), stIn p W a i s → stIn q W' a i s
 | .nil, _, _, _ => trivial
 | .cons _ n r, a, i, ⟨⟨b, o, b', h1, h2, h3, h4, h5⟩, h6⟩ => ⟨⟨b, o, b', (hp b h1).1, h2, (World.cell?_of_block (w := W) (a := ⟨b, _, none⟩) (hp b h1).2).trans h3, (World.cell?_of_block (w := W) (a := ⟨b, _, none⟩) (hp b h1).2).trans h4, ndIn_of hp n b' h5⟩, stIn_of hp r a (i + 1) h6⟩
end
theorem ndIn_below {p : Nat → Prop} {n : Nat} {W W' : World} (hb : Below n W W') (hp : ∀ b, p b → b < n) (nd : Nd) (b : Nat) (h : ndIn p W b nd) : ndIn p W' b nd := ndIn_of (fun b hb' => ⟨hb', hb.block b (hp b hb')⟩) nd b h
theorem ndIn_mono {p q : Nat → Prop} {W : World} (hp : ∀ b, p b → q b) (nd : Nd) (b : Nat) (h : ndIn p W b nd) : ndIn q W b nd := ndIn_of (fun b hb => ⟨hp b hb, rfl⟩) nd b h

theorem zero_new (w : World) : ItIn w.heap.size zeroI (w.alloc (.cells #[.bool false, .string ⟨#[]⟩, .slice none 0 0] 50)) := World.alloc_heap_new w _

set_option maxRecDepth 20000 in
set_option maxHeartbeats 1000000 in
theorem formOf_any (p : ByteArray) (leaf : Bool) (hp : p.size ≤ 1000) (w : World) :
  Calls Tryz.prog 118 #[.string p, .bool leaf] w fun e w' => e = .returned (txt (fmS p leaf)).val ∧ Below w.heap.size w w' := by
 have KF := fun w => form_any p leaf (by omega) w
 have KT := text_any (fmS p leaf)
 have A0 := be_new w (.cells #[.bool false, .string ⟨#[]⟩, .slice none 0 0] 50)
 have hR0 := zero_new w
 obtain ⟨s, hs⟩ : ∃ s, fmS p leaf = s := ⟨_, rfl⟩
 rw [hs] at KF KT ⊢
 clear hs
 go_enter Tryz.func118, Tryz.ntmps118
 go_wp2_with fail
 refine (KF _).mono ?_
 rintro e w1 ⟨rfl, B1⟩
 go_wp2_with fail
 refine (KT _).mono ?_
 rintro e w2 ⟨rfl, B2⟩
 have B12 := belowStep B1 B1.size B2
 have hR : ItIn w.heap.size zeroI w2 := (B12.block _ (by simp)).trans hR0
 have BW := belowStep A0 A0.size B12
 clear KF KT A0 hR0 B1 B2 B12
 obtain ⟨bR, hbR⟩ : ∃ c, w.heap.size = c := ⟨_, rfl⟩
 have HZ : Hid (w.heap.size = bR) := hbR
 rw [hbR] at hR BW ⊢
 clear hbR
 have d0 : w2.cell? ⟨bR, 0, none⟩ = some (.bool false) := by rw [Lib.cell_of_heap hR]; rfl
 have d1 : w2.cell? ⟨bR, 1, none⟩ = some (.string ⟨#[]⟩) := by rw [Lib.cell_of_heap hR]; rfl
 have d2 : w2.cell? ⟨bR, 2, none⟩ = some (.slice none 0 0) := by rw [Lib.cell_of_heap hR]; rfl
 have f0 := Lib.frozen_of_heap hR 0
 have f1 := Lib.frozen_of_heap hR 1
 have f2 := Lib.frozen_of_heap hR 2
 dsimp only [txt, Im.val, Im.l, Im.t, Im.sl, Im.a, Im.xs, Im.c, List.length_nil]
 go_wp2
 refine bodyPost_ret (v := .agg #[.bool false, .string s, .slice none 0 0]) (by simp [results, Tryz.results118, go_sem, d0, d1, d2]) rfl ⟨rfl, ?_⟩
 rw [HZ.out]
 exact below_set (below_set (below_set BW bR 0 (Nat.le_refl _) _) bR 1 (Nat.le_refl _) _) bR 2 (Nat.le_refl _) _

set_option maxRecDepth 20000 in
set_option maxHeartbeats 1000000 in
theorem newNode_any (xs : List Im) (ss : Sts) (htb : tbs xs < 3000000) (a sa : Option Addr) (c sc n : Nat) (p : Nat → Prop) (w : World) (hn : n ≤ w.heap.size) (hm : rowMem n w a 0 xs) (hp : ∀ b, p b → b < w.heap.size) (hs : stIn p w sa 0 ss) :
  Calls Tryz.prog 117 #[.slice a xs.length c, .slice sa ss.len sc] w fun e w' => Below w.heap.size w w' ∧ ∃ b, e = .returned (.pointer (some ⟨b, 0, none⟩)) ∧ ndIn (fun b => p b ∨ (w.heap.size ≤ b ∧ b < w'.heap.size)) w' b (.mk (.mk true ⟨#[]⟩ (ers xs)) ss) := by
 have hcn : cnts xs < 100000000 := by
  have h1 := tb_cnt (.mk true ⟨#[]⟩ none 0 xs)
  have h2 : tb (.mk true ⟨#[]⟩ none 0 xs) = 0 + 9 + tbs xs := rfl
  have h3 : cnt (.mk true ⟨#[]⟩ none 0 xs) = cnts xs + 1 := rfl
  omega
 have KL := fun w hn hm => list_any xs hcn n a c w hn hm
 have htb' : tbIs (ers xs) < 3000000 := by rw [← tbs_er]; exact htb
 obtain ⟨X, hX⟩ : ∃ q, ers xs = q := ⟨_, rfl⟩
 obtain ⟨N, hN⟩ : ∃ q, xs.length = q := ⟨_, rfl⟩
 obtain ⟨M, hM⟩ : ∃ q, ss.len = q := ⟨_, rfl⟩
 rw [hX] at KL htb' ⊢
 rw [hN] at KL ⊢
 rw [hM]
 have HX : Hid (_ ∧ _ ∧ _) := ⟨hm, hs, hM⟩
 clear hm hs hX hN hM htb
 go_enter Tryz.func117, Tryz.ntmps117
 go_wp2_with fail
 refine (KL _ hn HX.out.1).mono ?_
 rintro e w1 ⟨im, rfl, he1, hin1, B1⟩
 have hml : inMem w1.heap.size w1 im := inMem_of (fun b hb => hb.2) _ hin1
 have KE := fun n w hn hm => encode_any im (by rw [tb_er, he1]; show 0 + 9 + tbIs X < _; omega) n w hn hm
 rw [encE_er, encS_er, he1] at KE
 have hb1 := it_new w1 im
 have A1 := be_new w1 (.cells #[.bool im.l, .string im.t, im.sl] 50)
 obtain ⟨s, hs⟩ : ∃ q, eS (.mk true ⟨#[]⟩ X) = q := ⟨_, rfl⟩
 obtain ⟨g, hg⟩ : ∃ q, eE (.mk true ⟨#[]⟩ X) = q := ⟨_, rfl⟩
 rw [hs, hg] at KE
 have HI : Hid (_ ∧ _ ∧ _ ∧ _) := ⟨he1, hin1, hs, B1⟩
 clear he1 hin1 hs hg KL
 obtain ⟨il, it, ia, ic, ix⟩ := im
 dsimp only [Im.val, Im.l, Im.t, Im.sl, Im.a, Im.xs, Im.c] at KE hb1 A1 ⊢
 go_wp2_with fail
 refine (KE _ _ A1.size (inMem_below (Nat.le_refl _) A1 _ hml)).mono ?_
 rintro e w2 ⟨rfl, B2⟩
 have B12 := belowStep A1 A1.size B2
 have hb2 : ItIn w1.heap.size (.mk il it ia ic ix) w2 := (B2.block _ hb1.lt).trans hb1
 have c0 : w2.cell? ⟨w1.heap.size, 0, none⟩ = some (.bool il) := by rw [Lib.cell_of_heap hb2]; rfl
 have c1 : w2.cell? ⟨w1.heap.size, 1, none⟩ = some (.string it) := by rw [Lib.cell_of_heap hb2]; rfl
 have c2 : w2.cell? ⟨w1.heap.size, 2, none⟩ = some (.slice ia ix.length ic) := by rw [Lib.cell_of_heap hb2]; rfl
 have A2 := be_new w2 (.cells #[.bool il, .string it, .slice ia ix.length ic, .string s, .slice sa M sc] 61)
 have hN2 : (w2.alloc (.cells #[.bool il, .string it, .slice ia ix.length ic, .string s, .slice sa M sc] 61)).heap[w2.heap.size]? = some (.cells #[.bool il, .string it, .slice ia ix.length ic, .string s, .slice sa M sc] 61 (0, 0)) := World.alloc_heap_new w2 _
 have HJ : Hid (_ ∧ _ ∧ _) := ⟨B12, A2, hN2⟩
 clear B12 A2 hN2 hb1 A1 KE hml B2 B1 hb2
 go_wp2
 go_ret
 obtain ⟨he1, hin1, hs, B1⟩ := HI.out
 obtain ⟨B12, A2, hN2⟩ := HJ.out
 have BW1 := belowStep B12 B12.size A2
 have BW := belowStep B1 B1.size BW1
 have hsz1 := B1.size
 have hsz2 := B12.size
 refine ⟨BW, w2.heap.size, rfl, .mk il it ia ic ix, sa, sc, .inr ⟨by omega, by simp⟩, ?_, he1, ?_, ?_⟩
 ·rw [hs, HX.out.2.2]
  exact hN2
 ·refine inP_of (fun b hb => ⟨.inr ⟨hb.1, by simp; omega⟩, fun k => BW1.cell (p := ⟨b, k, none⟩) hb.2⟩) _ hin1
 ·exact stIn_of (fun b hb => ⟨⟨.inl hb, by have := hp b hb; omega⟩, BW.block b (hp b hb)⟩) ss sa 0 HX.out.2.1

set_option maxRecDepth 20000 in
set_option maxHeartbeats 1000000 in
theorem stands_any (nd : Nd) (b : Nat) (p : Nat → Prop) (w : World) (h : ndIn p w b nd) :
  Calls Tryz.prog 61 #[.pointer (some ⟨b, 0, none⟩)] w fun e w' => e = .returned (.bool (decide ((eS nd.x).size < 32))) ∧ Below w.heap.size w w' := by
 obtain ⟨x, ss⟩ := nd
 obtain ⟨im, a, c, h1, h2, h3, h4, h5⟩ := h
 have c3 : w.cell? ⟨b, 3, none⟩ = some (.string (eS x)) := by rw [Lib.cell_of_heap h2]; rfl
 show Calls Tryz.prog 61 #[.pointer (some ⟨b, 0, none⟩)] w fun e w' => e = .returned (.bool (decide ((eS x).size < 32))) ∧ Below w.heap.size w w'
 obtain ⟨s, hs⟩ : ∃ s, eS x = s := ⟨_, rfl⟩
 rw [hs] at c3 ⊢
 clear h1 h2 h3 h4 h5 hs
 have hd : decide ((s.size : Int) < 32) = decide (s.size < 32) := by congr 1; apply propext; omega
 go_enter Tryz.func61, Tryz.ntmps61
 go_wp2
 go_ret
 exact ⟨by rw [← hd]; rfl, Below.refl _ _⟩

end Go.Proofs.YtbmapdkcccdmfaaGreatDoor
namespace Go.Proofs.YtbmapdkcccdmfaaGreatDoor
open Go.RowKit Go.Shelf Go.Sort

theorem sum_one (t : ByteArray) (ht : t.size ≤ 140737488355328) (w : World) (hl : Laid w) :
  Calls Tryz.prog 20 #[.slice (some ⟨w.heap.size, 0, none⟩) 1 1] (w.alloc (.cells #[.string t] 9)) fun e w' => e = .returned (.string (sumOf t)) ∧ Below w.heap.size w w' := by
 have B0 := be_new w (.cells #[.string t] 9)
 have h := sum_list w.heap.size 0 1 [t] (w.alloc (.cells #[.string t] 9)) (hl.below B0) (fun j x hx => by
  match j, hx with
  | 0, hx => cases hx; simp) (by simp) (by simp) (by simp) (by simpa [Lib.join] using ht)
 rw [join_one] at h
 exact h.mono fun e w' ⟨he, hb⟩ => ⟨he, belowStep B0 B0.size hb⟩

set_option maxRecDepth 20000 in
set_option maxHeartbeats 1000000 in
theorem reference_any (nd : Nd) (b : Nat) (p : Nat → Prop) (w : World) (hl : Laid w) (hz : (eS nd.x).size ≤ 140737488355328) (hp : ∀ b, p b → b < w.heap.size) (h : ndIn p w b nd) :
  Calls Tryz.prog 120 #[.pointer (some ⟨b, 0, none⟩)] w fun e w' => ∃ im : Im, e = .returned im.val ∧ er im = refI nd.x ∧ inP p w' im ∧ Below w.heap.size w w' := by
 have KS := fun w h => stands_any nd b p w h
 obtain ⟨q, hq⟩ : ∃ q, decide ((eS nd.x).size < 32) = q := ⟨_, rfl⟩
 rw [hq] at KS
 obtain ⟨x, ss⟩ := nd
 have hh := h
 obtain ⟨im, a, c, h1, h2, h3, h4, h5⟩ := h
 have hbl := hp b h1
 have A0 := be_new w (.cells #[.bool false, .string ⟨#[]⟩, .slice none 0 0] 50)
 have hR0 := zero_new w
 have hh0 := ndIn_below A0 hp _ _ hh
 dsimp only [Nd.x] at hz KS ⊢
 go_enter Tryz.func120, Tryz.ntmps120
 go_wp2_with fail
 refine (KS _ hh0).mono ?_
 rintro e w1 ⟨rfl, B1⟩
 have BW := belowStep A0 A0.size B1
 have hR : ItIn w.heap.size zeroI w1 := (B1.block _ (by simp)).trans hR0
 have g2 := (BW.block b hbl).trans h2
 have hin := inP_of (fun b hb => ⟨hb, fun k => BW.cell (p := ⟨b, k, none⟩) (hp b hb)⟩) im h4
 have hl1 := hl.below BW
 clear A0 hR0 B1 hh0 KS h4 h5 hh h2
 obtain ⟨bR, hbR⟩ : ∃ c, w.heap.size = c := ⟨_, rfl⟩
 have HZ : Hid (w.heap.size = bR) := hbR
 rw [hbR] at hR BW hbl ⊢
 clear hbR
 have d0 : w1.cell? ⟨bR, 0, none⟩ = some (.bool false) := by rw [Lib.cell_of_heap hR]; rfl
 have d1 : w1.cell? ⟨bR, 1, none⟩ = some (.string ⟨#[]⟩) := by rw [Lib.cell_of_heap hR]; rfl
 have d2 : w1.cell? ⟨bR, 2, none⟩ = some (.slice none 0 0) := by rw [Lib.cell_of_heap hR]; rfl
 have f0 := Lib.frozen_of_heap hR 0
 have f1 := Lib.frozen_of_heap hR 1
 have f2 := Lib.frozen_of_heap hR 2
 cases q with
 | true =>
  have hq' : (eS x).size < 32 := of_decide_eq_true hq
  have c0 : w1.cell? ⟨b, 0, none⟩ = some (.bool im.l) := by rw [Lib.cell_of_heap g2]; rfl
  have c1 : w1.cell? ⟨b, 1, none⟩ = some (.string im.t) := by rw [Lib.cell_of_heap g2]; rfl
  have c2 : w1.cell? ⟨b, 2, none⟩ = some im.sl := by rw [Lib.cell_of_heap g2]; rfl
  obtain ⟨il, it, ia, ic, ix⟩ := im
  dsimp only [Im.val, Im.l, Im.t, Im.sl, Im.a, Im.xs, Im.c] at c0 c1 c2 ⊢
  go_wp2
  have BS : Below bR w1 (((w1.setCell ⟨bR, 0, none⟩ (.bool il)).setCell ⟨bR, 1, none⟩ (.string it)).setCell ⟨bR, 2, none⟩ (.slice ia ix.length ic)) := below_set (below_set (below_set (Below.refl bR w1) bR 0 (Nat.le_refl _) _) bR 1 (Nat.le_refl _) _) bR 2 (Nat.le_refl _) _
  refine bodyPost_ret (v := .agg #[.bool il, .string it, .slice ia ix.length ic]) (by simp [results, Tryz.results120, go_sem, d0, d1, d2]) rfl ⟨.mk il it ia ic ix, rfl, h3.trans (by simp [refI, hq']), ?_, ?_⟩
  ·exact inP_of (fun b hb => ⟨hb, fun k => BS.cell (p := ⟨b, k, none⟩) (by have := hp b hb; have := HZ.out; show b < bR; omega)⟩) _ hin
  ·rw [HZ.out]
   exact below_set (below_set (below_set BW bR 0 (Nat.le_refl _) _) bR 1 (Nat.le_refl _) _) bR 2 (Nat.le_refl _) _
 | false =>
  have hq' : ¬ (eS x).size < 32 := of_decide_eq_false hq
  have c3 : w1.cell? ⟨b, 3, none⟩ = some (.string (eS x)) := by rw [Lib.cell_of_heap g2]; rfl
  have KH := sum_one (eS x) hz w1 hl1
  obtain ⟨s, hs⟩ : ∃ s, eS x = s := ⟨_, rfl⟩
  have HS : Hid (_ ∧ _) := ⟨hs, hq'⟩
  rw [hs] at c3 KH
  clear hs hq hq' hz g2
  go_wp2_with fail
  refine KH.mono ?_
  rintro e w2 ⟨rfl, B2⟩
  go_wp2_with fail
  refine (text_any (sumOf s) _).mono ?_
  rintro e w3 ⟨rfl, B3⟩
  have B23 := belowStep B2 B2.size B3
  have hs1 := BW.size
  have hs2 := hR.lt
  have hR3 : ItIn bR zeroI w3 := (B23.block _ hs2).trans hR
  have BW3 : Below bR w w3 := belowStep BW (by omega) B23
  clear d0 d1 d2 f0 f1 f2 KH c3 B2 B3 hR
  have d0 : w3.cell? ⟨bR, 0, none⟩ = some (.bool false) := by rw [Lib.cell_of_heap hR3]; rfl
  have d1 : w3.cell? ⟨bR, 1, none⟩ = some (.string ⟨#[]⟩) := by rw [Lib.cell_of_heap hR3]; rfl
  have d2 : w3.cell? ⟨bR, 2, none⟩ = some (.slice none 0 0) := by rw [Lib.cell_of_heap hR3]; rfl
  have f0 := Lib.frozen_of_heap hR3 0
  have f1 := Lib.frozen_of_heap hR3 1
  have f2 := Lib.frozen_of_heap hR3 2
  dsimp only [txt, Im.val, Im.l, Im.t, Im.sl, Im.a, Im.xs, Im.c, List.length_nil]
  go_wp2
  refine bodyPost_ret (v := .agg #[.bool false, .string (sumOf s), .slice none 0 0]) (by simp [results, Tryz.results120, go_sem, d0, d1, d2]) rfl ⟨txt (sumOf s), rfl, ?_, ?_, ?_⟩
  ·obtain ⟨h6, h7⟩ := HS.out
   subst h6
   simp [refI, h7, txt, er, ers]
  ·simp [txt, inP, rowP]
  ·rw [HZ.out]
   exact below_set (below_set (below_set BW3 bR 0 (Nat.le_refl _) _) bR 1 (Nat.le_refl _) _) bR 2 (Nat.le_refl _) _

theorem two_row (w : World) (x y : Im) (hx : inMem w.heap.size w x) (hy : inMem w.heap.size w y) :
  rowMem (w.heap.size + 1) (w.alloc (.cells #[.bool x.l, .string x.t, x.sl, .bool y.l, .string y.t, y.sl] 50)) (some ⟨w.heap.size, 0, none⟩) 0 [x, y] := by
 have B := be_new w (.cells #[.bool x.l, .string x.t, x.sl, .bool y.l, .string y.t, y.sl] 50)
 have hx' := inMem_mono (Nat.le_succ _) _ (inMem_below (Nat.le_refl _) B _ hx)
 have hy' := inMem_mono (Nat.le_succ _) _ (inMem_below (Nat.le_refl _) B _ hy)
 exact ⟨⟨_, 0, by omega, rfl, by simp, by simp, by simp⟩, hx', ⟨_, 0, by omega, rfl, by simp, by simp, by simp⟩, hy', trivial⟩
theorem fm_size (p : ByteArray) (leaf : Bool) : (fmS p leaf).size ≤ p.size + 2 := by
 unfold fmS
 split
 ·unfold fmOf
  rw [n_by8_size, full_size, hd_size]
  omega
 ·exact Nat.zero_le _

set_option maxRecDepth 20000 in
set_option maxHeartbeats 1000000 in
theorem leafOf_any (p v : ByteArray) (hp : p.size ≤ 1000) (hv : v.size ≤ 1000) (w : World) :
  Calls Tryz.prog 91 #[.string p, .string v] w fun e w' => Below w.heap.size w w' ∧ ∃ b, e = .returned (.pointer (some ⟨b, 0, none⟩)) ∧ ndIn (fun b => w.heap.size ≤ b ∧ b < w'.heap.size) w' b (.mk (.mk true ⟨#[]⟩ [.mk false (fmS p true) [], .mk false v []]) .nil) := by
 have KF := fun w => formOf_any p true hp w
 have KT := text_any v
 go_enter Tryz.func91, Tryz.ntmps91
 go_wp2_with fail
 refine (KF _).mono ?_
 rintro e w1 ⟨rfl, B1⟩
 go_wp2_with fail
 refine (KT _).mono ?_
 rintro e w2 ⟨rfl, B2⟩
 have B12 := belowStep B1 B1.size B2
 obtain ⟨s, hs⟩ : ∃ s, fmS p true = s := ⟨_, rfl⟩
 rw [hs]
 dsimp only [txt, Im.val, Im.l, Im.t, Im.sl, Im.a, Im.xs, Im.c, List.length_nil]
 go_wp2_with fail
 have htx : inMem w2.heap.size w2 (txt s) := by simp [txt, inMem, rowMem]
 have hty : inMem w2.heap.size w2 (txt v) := by simp [txt, inMem, rowMem]
 have hrow := two_row w2 (txt s) (txt v) htx hty
 have A2 := be_new w2 (.cells #[.bool false, .string s, .slice none 0 0, .bool false, .string v, .slice none 0 0] 50)
 have hfs := fm_size p true
 rw [hs] at hfs
 have KN := newNode_any [txt s, txt v] .nil (by simp [tbs, tb, txt]; omega) (some ⟨w2.heap.size, 0, none⟩) none 2 0 (w2.heap.size + 1) (fun _ => False) (w2.alloc (.cells #[.bool false, .string s, .slice none 0 0, .bool false, .string v, .slice none 0 0] 50)) (by simp) hrow (fun _ h => h.elim) trivial
 refine KN.mono ?_
 rintro e w3 ⟨B3, b, rfl, hnd⟩
 have B23 := belowStep A2 A2.size B3
 have BW := belowStep B12 B12.size B23
 have hz := B12.size
 have HF : Hid (_ ∧ _) := ⟨BW, hnd⟩
 clear KN A2 hrow htx hty KF KT B3 B23 hnd BW
 go_wp2
 go_ret
 obtain ⟨BW, hnd⟩ := HF.out
 refine ⟨BW, b, rfl, ?_⟩
 subst hs
 exact ndIn_mono (fun b hb => hb.elim (fun h => h.elim) fun h => ⟨by have := h.1; simp at this; omega, h.2⟩) _ b hnd

def brN (p : ByteArray) (nd : Nd) : Nd := .mk (.mk true ⟨#[]⟩ [.mk false (fmS p false) [], refI nd.x]) (.cons p nd .nil)
set_option maxRecDepth 20000 in
set_option maxHeartbeats 1000000 in
theorem bridgeOf_any (q : ByteArray) (nd : Nd) (hq : q.size ≤ 1000) (ht : tbI (refI nd.x) ≤ 1000000) (b : Nat) (p : Nat → Prop) (w : World) (hl : Laid w) (hz : (eS nd.x).size ≤ 140737488355328) (hp : ∀ b, p b → b < w.heap.size) (h : ndIn p w b nd) :
  Calls Tryz.prog 93 #[.string q, .pointer (some ⟨b, 0, none⟩)] w fun e w' => Below w.heap.size w w' ∧ ∃ b, e = .returned (.pointer (some ⟨b, 0, none⟩)) ∧ ndIn (fun b => p b ∨ w.heap.size ≤ b ∧ b < w'.heap.size) w' b (brN q nd) := by
 have KF := fun w => formOf_any q false hq w
 have KR := fun w hl hp h => reference_any nd b p w hl hz hp h
 obtain ⟨s, hs⟩ : ∃ s, fmS q false = s := ⟨_, rfl⟩
 rw [hs] at KF
 have HS : Hid (fmS q false = s) := hs
 clear hs
 go_enter Tryz.func93, Tryz.ntmps93
 go_wp2_with fail
 refine (KF _).mono ?_
 rintro e w1 ⟨rfl, B1⟩
 have hp1 : ∀ b, p b → b < w1.heap.size := fun b hb => Nat.lt_of_lt_of_le (hp b hb) B1.size
 have h1 := ndIn_below B1 hp _ _ h
 dsimp only [txt, Im.val, Im.l, Im.t, Im.sl, Im.a, Im.xs, Im.c, List.length_nil]
 go_wp2_with fail
 refine (KR _ (hl.below B1) hp1 h1).mono ?_
 rintro e w2 ⟨⟨il, it, ia, ic, ix⟩, rfl, he, hin, B2⟩
 have h2 := ndIn_below B2 hp1 _ _ h1
 have B12 := belowStep B1 B1.size B2
 clear B1 B2 KF KR h1 h
 dsimp only [txt, Im.val, Im.l, Im.t, Im.sl, Im.a, Im.xs, Im.c, List.length_nil]
 go_wp2_with fail
 have htx : inMem w2.heap.size w2 (txt s) := by simp [txt, inMem, rowMem]
 have hp2 : ∀ b, p b → b < w2.heap.size := fun b hb => Nat.lt_of_lt_of_le (hp b hb) B12.size
 have hty : inMem w2.heap.size w2 (.mk il it ia ic ix) := inMem_of hp2 _ hin
 have hrow := two_row w2 (txt s) (.mk il it ia ic ix) htx hty
 have A2 := be_new w2 (.cells #[.bool false, .string s, .slice none 0 0, .bool il, .string it, .slice ia ix.length ic] 50)
 dsimp only [txt, Im.val, Im.l, Im.t, Im.sl, Im.a, Im.xs, Im.c, List.length_nil] at hrow
 have hX : (w2.alloc (.cells #[.bool false, .string s, .slice none 0 0, .bool il, .string it, .slice ia ix.length ic] 50)).heap.size = w2.heap.size + 1 := by simp
 obtain ⟨X, hXe⟩ : ∃ X, w2.alloc (.cells #[.bool false, .string s, .slice none 0 0, .bool il, .string it, .slice ia ix.length ic] 50) = X := ⟨_, rfl⟩
 rw [hXe] at hrow A2 hX ⊢
 clear hXe
 have A3 := be_new X (.cells #[.string q, .pointer (some ⟨b, 0, none⟩)] 117)
 have hcs : (X.alloc (.cells #[.string q, .pointer (some ⟨b, 0, none⟩)] 117)).heap[w2.heap.size + 1]? = some (.cells #[.string q, .pointer (some ⟨b, 0, none⟩)] 117 (0, 0)) := by rw [← hX]; exact World.alloc_heap_new X _
 have hY : (X.alloc (.cells #[.string q, .pointer (some ⟨b, 0, none⟩)] 117)).heap.size = w2.heap.size + 2 := by simp [hX]
 obtain ⟨Y, hYe⟩ : ∃ Y, X.alloc (.cells #[.string q, .pointer (some ⟨b, 0, none⟩)] 117) = Y := ⟨_, rfl⟩
 rw [hYe] at A3 hcs hY ⊢
 clear hYe
 have hrow3 := rowMem_below (by rw [hX]; exact Nat.le_refl _) (by rw [← hX]; exact A3) _ _ _ hrow
 have A23 := belowStep A2 A2.size A3
 have h3 := ndIn_below A23 hp2 _ _ h2
 have hst : stIn (fun b => p b ∨ b = w2.heap.size + 1) Y (some ⟨w2.heap.size + 1, 0, none⟩) 0 (.cons q nd .nil) :=
  ⟨⟨w2.heap.size + 1, 0, b, .inr rfl, rfl, by rw [Lib.cell_of_heap hcs]; rfl, by rw [Lib.cell_of_heap hcs]; rfl, ndIn_mono (fun _ h => .inl h) _ _ h3⟩, trivial⟩
 have hfs := fm_size q false
 rw [HS.out] at hfs
 rw [← he, ← tb_er] at ht
 have KN := newNode_any [txt s, .mk il it ia ic ix] (.cons q nd .nil) (by simp only [tbs]; rw [show tb (txt s) = s.size + 9 + 0 from rfl]; omega) (some ⟨w2.heap.size, 0, none⟩) (some ⟨w2.heap.size + 1, 0, none⟩) 2 1 (w2.heap.size + 1) (fun b => p b ∨ b = w2.heap.size + 1) Y (by omega) hrow3 (fun b hb => hb.elim (fun hb => by have := hp2 b hb; omega) fun hb => by omega) hst
 refine KN.mono ?_
 rintro e w3 ⟨B3, b', rfl, hnd⟩
 have B23 := belowStep A23 A23.size B3
 have BW := belowStep B12 B12.size B23
 have hz := B12.size
 have hz3 := B3.size
 have HF : Hid (_ ∧ _) := ⟨BW, hnd⟩
 clear KN A2 hrow htx hty B3 B23 hnd BW
 go_wp2
 go_ret
 obtain ⟨BW, hnd⟩ := HF.out
 refine ⟨BW, b', rfl, ?_⟩
 unfold brN
 rw [HS.out, ← he]
 exact ndIn_mono (fun b hb => hb.elim (fun hb => hb.elim (fun hb => .inl hb) fun hb => .inr ⟨by omega, by omega⟩) fun hb => .inr ⟨by have := hb.1; omega, hb.2⟩) _ b' hnd
end Go.Proofs.YtbmapdkcccdmfaaGreatDoor
namespace Go.Proofs.YtbmapdkcccdmfaaGreatDoor
open Go.RowKit Go.Shelf Go.Sort
attribute [local go_sem] Oper.semAt_some

def hfA (d : Nat) (es : List Pr) (k : Nat) : Int := bt (es.getD k (⟨#[]⟩, ⟨#[]⟩)).1 d
def rn (d : Nat) (h : Int) : List Pr → Nat
 | [] => 0
 | e :: r => if bt e.1 d = h then rn d h r + 1 else 0
theorem rn_le (d : Nat) (h : Int) : ∀ es : List Pr, rn d h es ≤ es.length
 | [] => Nat.le_refl _
 | e :: r => by
  have := rn_le d h r
  simp only [rn, List.length_cons]
  split <;> omega
theorem drop_at {es : List Pr} {k : Nat} {e : Pr} (h : es[k]? = some e) : es.drop k = e :: es.drop (k + 1) := by
 obtain ⟨h1, h2⟩ := List.getElem?_eq_some_iff.1 h
 rw [List.drop_eq_getElem_cons h1, h2]
theorem hfA_at {d : Nat} {es : List Pr} {k : Nat} {e : Pr} (h : es[k]? = some e) : hfA d es k = bt e.1 d := by
 unfold hfA
 rw [List.getD_eq_getElem?_getD, h]
 rfl
theorem rn_pos {d : Nat} {es : List Pr} {k : Nat} (h : k < es.length) : 1 ≤ rn d (hfA d es k) (es.drop k) := by
 have he : es[k]? = some es[k] := List.getElem?_eq_getElem h
 rw [drop_at he, hfA_at he]
 show 1 ≤ (if _ then _ else _)
 rw [if_pos rfl]
 omega
def pgF (d : Nat) (es : List Pr) : Nat → Nat → List (Nat × Nat)
 | 0, _ => []
 | f + 1, k => if k < es.length then (k, rn d (hfA d es k) (es.drop k)) :: pgF d es f (k + rn d (hfA d es k) (es.drop k)) else []
theorem pgF_pg (d : Nat) (es : List Pr) : ∀ (f g k : Nat), es.length ≤ f + k → es.length ≤ g + k → pgF d es f k = pgF d es g k
 | 0, 0, _, _, _ => rfl
 | 0, g + 1, k, h, _ => by
  show [] = if _ then _ else _
  rw [if_neg (by omega)]
 | f + 1, 0, k, _, h => by
  show (if _ then _ else _) = []
  rw [if_neg (by omega)]
 | f + 1, g + 1, k, h, h' => by
  show (if _ then _ else _) = (if _ then _ else _)
  split
  ·rename_i hk
   have := rn_pos (d := d) hk
   rw [pgF_pg d es f g _ (by omega) (by omega)]
  ·rfl
def pg (d : Nat) (es : List Pr) (k : Nat) : List (Nat × Nat) := pgF d es (es.length - k) k
theorem pg_eq (d : Nat) (es : List Pr) (k : Nat) : pg d es k = if k < es.length then (k, rn d (hfA d es k) (es.drop k)) :: pg d es (k + rn d (hfA d es k) (es.drop k)) else [] := by
 by_cases h : k < es.length
 ·have := rn_pos (d := d) h
  obtain ⟨f, hf⟩ : ∃ f, es.length - k = f + 1 := ⟨es.length - k - 1, by omega⟩
  rw [if_pos h]
  unfold pg
  rw [hf]
  show (if _ then _ else _) = _
  rw [if_pos h, pgF_pg d es f (es.length - (k + rn d (hfA d es k) (es.drop k))) _ (by omega) (by omega)]
 ·rw [if_neg h]
  unfold pg
  rw [show es.length - k = 0 by omega]
  rfl
theorem pg_len (d : Nat) (es : List Pr) : ∀ (f k : Nat), (pgF d es f k).length ≤ f
 | 0, _ => Nat.le_refl _
 | f + 1, k => by
  show (if _ then _ else _ : List (Nat × Nat)).length ≤ _
  split
  ·have := pg_len d es f (k + rn d (hfA d es k) (es.drop k))
   simp only [List.length_cons]
   omega
  ·exact Nat.zero_le _
theorem pg_mem (d : Nat) (es : List Pr) : ∀ (f k : Nat) (e : Nat × Nat), e ∈ pgF d es f k → k ≤ e.1 ∧ e.1 < es.length ∧ e.2 = rn d (hfA d es e.1) (es.drop e.1)
 | 0, _, _, h => by cases h
 | f + 1, k, e, h => by
  have h' : e ∈ (if _ then _ else _ : List (Nat × Nat)) := h
  split at h'
  ·rename_i hk
   rcases List.mem_cons.1 h' with rfl | h2
   ·exact ⟨Nat.le_refl _, hk, rfl⟩
   ·have := pg_mem d es f _ e h2
    exact ⟨by omega, this.2⟩
  ·cases h'
def gEnc (b o c d : Nat) (es : List Pr) (e : Nat × Nat) : Array Value := #[.int .u8 (hfA d es e.1), .slice (some ⟨b, o + 2 * e.1, none⟩) e.2 (c - e.1)]

set_option maxHeartbeats 1000000 in
theorem parted_any (a : Option Addr) (m c : Nat) (d : Nat) (w : World) :
  Calls Tryz.prog 121 #[.slice a m c, .int .i64 d] w fun e w' => e = .returned (.func (.func 137) #[] #[.pointer (some ⟨w.heap.size, 0, none⟩), .pointer (some ⟨w.heap.size + 1, 0, none⟩)]) ∧ w' = (w.alloc (.cells #[.slice a m c] 114)).alloc (.cells #[.int .i64 d] 3) := by
 go_enter Tryz.func121, Tryz.ntmps121
 go_wp2
 go_ret
 exact ⟨rfl, rfl⟩

def Kp (b bY : Nat) (X1 X2 : World) : Prop := X1.heap.size ≤ X2.heap.size ∧ X2.heap[b]? = X1.heap[b]? ∧ X2.heap[bY]? = X1.heap[bY]?
theorem Kp.refl (b bY : Nat) (X1 : World) : Kp b bY X1 X1 := ⟨Nat.le_refl _, rfl, rfl⟩
theorem Kp.trans {b bY : Nat} {X1 X2 X3 : World} (h : Kp b bY X1 X2) (h' : Kp b bY X2 X3) : Kp b bY X1 X3 := ⟨Nat.le_trans h.1 h'.1, h'.2.1.trans h.2.1, h'.2.2.trans h.2.2⟩
theorem Kp.below {b bY n : Nat} {X1 X2 : World} (h : Below n X1 X2) (hb : b < n) (hY : bY < n) : Kp b bY X1 X2 := ⟨h.size, h.block b hb, h.block bY hY⟩
theorem Kp.prs {b bY o : Nat} {X1 X2 : World} {es : List Pr} (h : Kp b bY X1 X2) (hp : prs X1 b o es) : prs X2 b o es := fun j e he => ⟨(World.cell?_of_block (w := X1) (a := ⟨b, _, none⟩) h.2.1).trans (hp j e he).1, (World.cell?_of_block (w := X1) (a := ⟨b, _, none⟩) h.2.1).trans (hp j e he).2⟩
theorem Kp.cell {b bY : Nat} {X1 X2 : World} (h : Kp b bY X1 X2) (k : Nat) : X2.cell? ⟨bY, k, none⟩ = X1.cell? ⟨bY, k, none⟩ := World.cell?_of_block (w := X1) (a := ⟨bY, k, none⟩) h.2.2

set_option maxRecDepth 100000 in
set_option maxHeartbeats 2000000 in
theorem parted1_in (n l bX bY b o c d : Nat) (es : List Pr) (hN : es.length < 1000000) (hd : ∀ (j : Nat) (e : Pr), es[j]? = some e → d < e.1.size) (hcap : es.length ≤ c) (J Jx : List (Nat × Nat) → World → Prop) (B : Nat) (hJ : AbidesFrom B J)
  (W : World) (hb : b < W.heap.size) (hbY : bY < W.heap.size) (hp : prs W b o es)
  (hc0 : W.cell? ⟨bX, 0, none⟩ = some (.slice (some ⟨b, o, none⟩) es.length c)) (hc1 : W.cell? ⟨bY, 0, none⟩ = some (.int .i64 d))
  (hY : ∀ m pre e W, J pre W → pre.length < (pg d es 0).length → e ∈ pg d es 0 → YieldAt Fence.wide m Tryz.prog l (gEnc b o c d es e) W fun e' W' =>
   (e' = .returned (.bool true) ∧ J (pre ++ [e]) W' ∧ Kp b bY W W') ∨ (e' = .returned (.bool false) ∧ Jx (pre ++ [e]) W'))
  (h0 : J [] W) :
  CallsIn Fence.wide n Tryz.prog 137 #[.func (.yield l) #[] #[], .pointer (some ⟨bX, 0, none⟩), .pointer (some ⟨bY, 0, none⟩)] W fun e W' => (∃ v, e = .returned v) ∧
   (J (pg d es 0) W' ∨ (∃ q, q ≤ (pg d es 0).length ∧ Jx ((pg d es 0).take q) W')) := by
 refine callsIn_of_wp Tryz.func137 rfl trivial ?_ rfl
 simp only [Tryz.ntmps137, List.size_toArray, List.length_cons, List.length_nil, Nat.reduceAdd, Nat.reduceSub, Array.replicate_succ, Array.replicate_zero, List.push_toArray, List.append_toArray, List.nil_append, List.cons_append]
 obtain ⟨N, hNN⟩ : ∃ N, es.length = N := ⟨_, rfl⟩
 have HN : Hid (es.length = N) := hNN
 rw [hNN] at hN hcap hc0
 clear hNN
 refine wpIn_wide.2 ?_
 go_wp2_with fail
 go_loopg [4] N (fun gk v wr => ∃ (k r m q : Nat) (pre : List (Nat × Nat)), v = .slice (some ⟨b, r, none⟩) m q ∧ k + gk = N ∧ (k < N → o + 2 * k = r) ∧ m + k = N ∧ q + k = c ∧ Hid (pg d es 0 = pre ++ pg d es k) ∧ J pre wr ∧ Kp b bY W wr)
 case atStart => exact ⟨0, o, N, c, [], rfl, by omega, fun _ => by omega, by omega, by omega, rfl, h0, Kp.refl _ _ _⟩
 case round =>
  obtain ⟨k, r, m, q, pre, rfl, hk, hr, hm, hq, HP, hJs, BW⟩ := hrel
  have hnr : W.heap.size ≤ wr.heap.size := BW.1
  by_cases hlt : k < N
  ·have l1 : (0 : Int) < m := by omega
   replace hr := hr hlt
   obtain ⟨f, hf⟩ : ∃ f, es[k]? = some f := ⟨es[k]'(by rw [HN.out]; omega), List.getElem?_eq_getElem (by rw [HN.out]; omega)⟩
   have hdf := hd k f hf
   have ldf : (d : Int) < f.1.size := by omega
   have hpr := BW.prs hp
   have q0 : ∀ u os, (grow (redrawn wr u) os).cell? ⟨b, r, none⟩ = some (.string f.1) := fun u os => ((below_regrown wr u os).cell (p := ⟨b, r, none⟩) (by show b < _; omega)).trans (by rw [← hr]; exact (hpr k f hf).1)
   have q1 : ∀ u os, (grow (redrawn wr u) os).cell? ⟨bY, 0, none⟩ = some (.int .i64 d) := fun u os => ((below_regrown wr u os).cell (p := ⟨bY, 0, none⟩) (by show bY < _; omega)).trans ((BW.cell 0).trans hc1)
   have g1 := bt_get f.1 d hdf
   obtain ⟨h, hh⟩ : ∃ h, bt f.1 d = h := ⟨_, rfl⟩
   rw [hh] at g1
   have HH : Hid (hfA d es k = h) := (hfA_at hf).trans hh
   go_wp2_with fail
   refine wp_region_quiet_below (by kernel_rfl) (by kernel_rfl) ?_
   repeat (quiet_step (fail))
   refine wpQuiet_nil ?_
   intro w8 hw8
   have B8 : Below wr.heap.size wr w8 := by
    obtain ⟨p, rfl⟩ := hw8
    exact below_regrown _ _ _
   have hJ8 := hJ pre wr w8 none hJs (grown_of B8) (fun _ h => by cases h)
   have BW8 := BW.trans (Kp.below B8 (by omega) (by omega))
   clear hw8 q0 q1 hJs BW B8 hpr
   go_wp2_with fail
   obtain ⟨gk0, hgk0⟩ : ∃ x, gk = x := ⟨_, rfl⟩
   rw [hgk0] at hk
   rename_i KT hKT
   have hKI : Hid (∀ a w, _ → KT a w) := fun a w h => hKT a w ((wpIn_wide (n := n)).1 h)
   clear hKT
   go_loopg [6] (m - 1) (fun gk v wr => ∃ s : Nat, v = .int .i64 s ∧ 1 ≤ s ∧ s + gk = m ∧ Hid (rn d h (es.drop k) = s + rn d h (es.drop (k + s))) ∧ J pre wr ∧ Kp b bY W wr)
   case atStart =>
    refine ⟨1, rfl, Nat.le_refl _, by omega, ?_, hJ8, BW8⟩
    show rn d h (es.drop k) = 1 + rn d h (es.drop (k + 1))
    rw [drop_at hf]
    simp only [rn]
    rw [if_pos hh]
    omega
   case round =>
    clear hJ8 BW8
    obtain ⟨s, rfl, hs1, hs, HS, hJs, BW⟩ := hrel
    have hnr : W.heap.size ≤ wr.heap.size := BW.1
    by_cases hsm : s < m
    ·have ls : (s : Int) < m := by omega
     obtain ⟨f2, hf2⟩ : ∃ f, es[k + s]? = some f := ⟨es[k + s]'(by rw [HN.out]; omega), List.getElem?_eq_getElem (by rw [HN.out]; omega)⟩
     have hdf2 := hd (k + s) f2 hf2
     have ldf2 : (d : Int) < f2.1.size := by omega
     have hpr := BW.prs hp
     obtain ⟨r2, hr2⟩ : ∃ x, r + s * 2 = x := ⟨_, rfl⟩
     have q0 : ∀ u os, (grow (redrawn wr u) os).cell? ⟨b, r2, none⟩ = some (.string f2.1) := fun u os => ((below_regrown wr u os).cell (p := ⟨b, r2, none⟩) (by show b < _; omega)).trans (by rw [← hr2, ← hr, show o + 2 * k + s * 2 = o + 2 * (k + s) by omega]; exact (hpr (k + s) f2 hf2).1)
     have q1 : ∀ u os, (grow (redrawn wr u) os).cell? ⟨bY, 0, none⟩ = some (.int .i64 d) := fun u os => ((below_regrown wr u os).cell (p := ⟨bY, 0, none⟩) (by show bY < _; omega)).trans ((BW.cell 0).trans hc1)
     have g2 := bt_get f2.1 d hdf2
     obtain ⟨h2, hh2⟩ : ∃ h, bt f2.1 d = h := ⟨_, rfl⟩
     rw [hh2] at g2
     have HD := drop_at hf2
     have wk : IntKind.i64.wrap ((s : Int) + 1) = ((s + 1 : Nat) : Int) := by rw [IntKind.wrap_i64]; omega
     clear hpr
     by_cases hsame : h2 = h
     ·subst hsame
      have HS2 : Hid (rn d h2 (es.drop k) = (s + 1) + rn d h2 (es.drop (k + (s + 1)))) := by
       have h1 := HS.out
       rw [HD] at h1
       simp only [rn] at h1
       rw [if_pos hh2] at h1
       show _ = _
       rw [h1, Nat.add_assoc k s 1]
       omega
      clear HD
      go_wp2_with fail
      refine wp_region_quiet_below (by kernel_rfl) (by kernel_rfl) ?_
      repeat (go_big_quiet_step (fail))
      refine wpQuiet_nil ?_
      intro w9 hw9
      have B9 : Below wr.heap.size wr w9 := by
       obtain ⟨p, rfl⟩ := hw9
       exact below_regrown _ _ _
      have hJ9 := hJ pre wr w9 none hJs (grown_of B9) (fun _ h => by cases h)
      have BW9 := BW.trans (Kp.below B9 (by omega) (by omega))
      clear hw9 hJs BW B9
      clear q0 q1
      go_wp2
      go_roundg (gk - 1)
      case measure => omega
      case rel => exact ⟨s + 1, by first | rfl | (congr 1; omega), by omega, by omega, HS2, hJ9, BW9⟩
     ·have hbe : (h2 == h) = false := by rw [beq_eq_false_iff_ne]; exact hsame
      replace HS : Hid (rn d h (es.drop k) = s) := by
       have h1 := HS.out
       rw [HD] at h1
       simp only [rn] at h1
       rw [if_neg (by rw [hh2]; exact hsame)] at h1
       exact h1
      clear HD
      go_wp2_with fail
      refine wp_region_quiet_below (by kernel_rfl) (by kernel_rfl) ?_
      repeat (go_big_quiet_step (fail))
      refine wpQuiet_nil ?_
      intro w9 hw9
      have B9 : Below wr.heap.size wr w9 := by
       obtain ⟨p, rfl⟩ := hw9
       exact below_regrown _ _ _
      have hJ9 := hJ pre wr w9 none hJs (grown_of B9) (fun _ h => by cases h)
      have BW9 := BW.trans (Kp.below B9 (by omega) (by omega))
      clear hw9 hJs BW B9
      clear q0 q1
      have lsm : (s : Int) ≤ m := by omega
      have lsm' : s ≤ m := by omega
      have lsq : (s : Int) ≤ q := by omega
      have lmq : (m : Int) ≤ q := by omega
      have HW : Hid (_ ∧ _) := ⟨hJ9, BW9⟩
      clear hJ9 BW9
      go_wp2_with fail
      refine hKI.out _ _ ?_
      obtain ⟨hJ9, BW9⟩ := HW.out
      have HE : Hid (pg d es k = (k, s) :: pg d es (k + s)) := by
       have h1 := pg_eq d es k
       rw [if_pos (by rw [HN.out]; exact hlt), HH.out, HS.out] at h1
       exact h1
      obtain ⟨fn, tmps, assign, body, hy, hR⟩ := hY (n - 1) pre (k, s) w9 hJ9 (by rw [HP.out, HE.out, List.length_append]; simp) (by rw [HP.out, HE.out]; simp)
      have hHH := HH.out
      unfold gEnc at hy
      dsimp only at hy
      rw [hHH, hr, show c - k = q by omega] at hy
      clear hHH
      gi_wp2
      refine ⟨fun h => (by cases h), hR.mono ?_⟩
      rintro e W4 (⟨rfl, hJ4, B4⟩ | ⟨rfl, hJx4⟩)
      ·clear hy hR
       have BW4 := BW9.trans B4
       clear BW9 B4
       gi_wp2
       all_goals
        go_roundg (m - s)
        case measure => omega
        case rel =>
         refine ⟨k + s, _, m - s, _, pre ++ [(k, s)], rfl, by omega, fun _ => by omega, by omega, by omega, ?_, hJ4, BW4⟩
         show pg d es 0 = _
         rw [HP.out, HE.out, List.append_assoc]
         rfl
      ·clear hy hR
       gi_wp2
       refine bodyPost_ret (v := .tuple #[]) (by simp [results, Tryz.results137, go_sem]) rfl ⟨⟨_, rfl⟩, .inr ⟨pre.length + 1, ?_, ?_⟩⟩
       ·rw [HP.out, HE.out, List.length_append, List.length_cons]
        omega
       ·rw [HP.out, HE.out, List.take_append, List.take_of_length_le (Nat.le_succ _), show pre.length + 1 - pre.length = 1 by omega]
        exact hJx4
    ·have ls : ¬ (s : Int) < m := by omega
     replace HS : Hid (rn d h (es.drop k) = s) := by
      have h1 := HS.out
      have e0 : es.drop (k + s) = [] := List.drop_eq_nil_of_le (by rw [HN.out]; omega)
      rw [e0] at h1
      exact h1
     go_wp2_with fail
     refine wp_region_quiet_below (by kernel_rfl) (by kernel_rfl) ?_
     repeat (go_big_quiet_step (fail))
     refine wpQuiet_nil ?_
     intro w9 hw9
     have B9 : Below wr.heap.size wr w9 := by
      obtain ⟨p, rfl⟩ := hw9
      exact below_regrown _ _ _
     have hJ9 := hJ pre wr w9 none hJs (grown_of B9) (fun _ h => by cases h)
     have BW9 := BW.trans (Kp.below B9 (by omega) (by omega))
     clear hw9 hJs BW B9
     have lsm : (s : Int) ≤ m := by omega
     have lsm' : s ≤ m := by omega
     have lsq : (s : Int) ≤ q := by omega
     have lmq : (m : Int) ≤ q := by omega
     have HW : Hid (_ ∧ _) := ⟨hJ9, BW9⟩
     clear hJ9 BW9
     go_wp2_with fail
     refine hKI.out _ _ ?_
     obtain ⟨hJ9, BW9⟩ := HW.out
     have HE : Hid (pg d es k = (k, s) :: pg d es (k + s)) := by
      have h1 := pg_eq d es k
      rw [if_pos (by rw [HN.out]; exact hlt), HH.out, HS.out] at h1
      exact h1
     obtain ⟨fn, tmps, assign, body, hy, hR⟩ := hY (n - 1) pre (k, s) w9 hJ9 (by rw [HP.out, HE.out, List.length_append]; simp) (by rw [HP.out, HE.out]; simp)
     have hHH := HH.out
     unfold gEnc at hy
     dsimp only at hy
     rw [hHH, hr, show c - k = q by omega] at hy
     clear hHH
     gi_wp2
     refine ⟨fun h => (by cases h), hR.mono ?_⟩
     rintro e W4 (⟨rfl, hJ4, B4⟩ | ⟨rfl, hJx4⟩)
     ·clear hy hR
      have BW4 := BW9.trans B4
      clear BW9 B4
      gi_wp2
      all_goals
       go_roundg (m - s)
       case measure => omega
       case rel =>
        refine ⟨k + s, _, m - s, _, pre ++ [(k, s)], rfl, by omega, fun _ => by omega, by omega, by omega, ?_, hJ4, BW4⟩
        show pg d es 0 = _
        rw [HP.out, HE.out, List.append_assoc]
        rfl
     ·clear hy hR
      gi_wp2
      refine bodyPost_ret (v := .tuple #[]) (by simp [results, Tryz.results137, go_sem]) rfl ⟨⟨_, rfl⟩, .inr ⟨pre.length + 1, ?_, ?_⟩⟩
      ·rw [HP.out, HE.out, List.length_append, List.length_cons]
       omega
      ·rw [HP.out, HE.out, List.take_append, List.take_of_length_le (Nat.le_succ _), show pre.length + 1 - pre.length = 1 by omega]
       exact hJx4
  ·have l1 : ¬ (0 : Int) < m := by omega
   have HQ : Hid (pg d es 0 = pre) := by
    have h1 := HP.out
    rw [pg_eq d es k, if_neg (by rw [HN.out]; exact hlt), List.append_nil] at h1
    exact h1
   have HJ : Hid (J pre wr) := hJs
   clear hJs
   go_wp2
   go_end0
   exact ⟨⟨_, rfl⟩, .inl (by rw [HQ.out]; exact HJ.out)⟩

abbrev Pg (d : Nat) (es : List Pr) := { e : Nat × Nat // e ∈ pg d es 0 }
theorem parted_stops (n bX bY b o c d : Nat) (es : List Pr) (hN : es.length < 1000000) (hd : ∀ (j : Nat) (e : Pr), es[j]? = some e → d < e.1.size) (hcap : es.length ≤ c) (w : World) (hb : b < w.heap.size) (hp : prs w b o es) (h0 : Bx bX 114 (.slice (some ⟨b, o, none⟩) es.length c) w) (h1 : Bx bY 3 (.int .i64 d) w) :
  SeqStopsK Fence.wide n Tryz.prog 137 #[.pointer (some ⟨bX, 0, none⟩), .pointer (some ⟨bY, 0, none⟩)] (fun e : Pg d es => gEnc b o c d es e.1) (fun A B => Kp b bY A B) (fun ys => ys.map (·.1) = pg d es 0) (fun pre => ∃ q, q ≤ (pg d es 0).length ∧ pre.map (·.1) = (pg d es 0).take q) (pg d es 0).length w := fun l J Jx W hW hJ hJx hY hJ0 => by
 refine (parted1_in n l bX bY b o c d es hN hd hcap (fun pre0 W => ∃ pre : List (Pg d es), pre.map (·.1) = pre0 ∧ J pre W) (fun pre0 W => ∃ pre : List (Pg d es), pre.map (·.1) = pre0 ∧ Jx pre W) W.heap.size
  (fun s A C row hs hg hr => by obtain ⟨pre, h1, h2⟩ := hs; exact ⟨pre, h1, hJ pre A C row h2 hg hr⟩) W (Nat.lt_of_lt_of_le hb hW.size) (Nat.lt_of_lt_of_le h1.lt hW.size) (prs_below hW hb hp) (Bx.cell ((hW.block bX h0.lt).trans h0)) (Bx.cell ((hW.block bY h1.lt).trans h1))
  (fun m pre0 e W1 hj hl he => by
   obtain ⟨pre, h1, h2⟩ := hj
   have hl' : pre.length < (pg d es 0).length := by rw [← h1, List.length_map] at hl; exact hl
   refine (yieldAny m (hY pre ⟨e, he⟩ W1 h2 hl')).mono fun e' W' h => ?_
   rcases h with ⟨ha, hb, hc⟩ | ⟨ha, hb⟩
   ·exact .inl ⟨ha, ⟨pre ++ [⟨e, he⟩], by rw [List.map_append, h1]; rfl, hb⟩, hc⟩
   ·exact .inr ⟨ha, ⟨pre ++ [⟨e, he⟩], by rw [List.map_append, h1]; rfl, hb⟩⟩) ⟨[], rfl, hJ0⟩).mono ?_
 rintro e W' ⟨he, ⟨pre, h1, h2⟩ | ⟨q, hq, pre, h1, h2⟩⟩
 ·exact ⟨he, .inl ⟨pre, h1, h2⟩⟩
 ·exact ⟨he, .inr ⟨pre, ⟨q, hq, h1⟩, h2⟩⟩
end Go.Proofs.YtbmapdkcccdmfaaGreatDoor
namespace Go.Proofs.YtbmapdkcccdmfaaGreatDoor
open Go.RowKit Go.Shelf Go.Sort

def LtB (a b : ByteArray) : Prop := ∃ t, t ≤ a.size ∧ t < b.size ∧ (∀ s, s < t → bt a s = bt b s) ∧ (t = a.size ∨ bt a t < bt b t)
structure Ok (d : Nat) (es : List Pr) : Prop where
 pos : 1 ≤ es.length
 few : es.length ≤ 200
 sz : ∀ (j : Nat) (e : Pr), es[j]? = some e → d ≤ e.1.size ∧ e.1.size ≤ 128 ∧ e.2.size ≤ 1000
 srt : ∀ (i j : Nat) (e f : Pr), i < j → es[i]? = some e → es[j]? = some f → LtB e.1 f.1
 alk : ∀ (i j : Nat) (e f : Pr) (t : Nat), es[i]? = some e → es[j]? = some f → t < d → bt e.1 t = bt f.1 t
 hlf : ∀ (j : Nat) (e : Pr) (t : Nat), es[j]? = some e → 0 ≤ bt e.1 t ∧ bt e.1 t < 16
theorem Ok.longer {d : Nat} {es : List Pr} (h : Ok d es) {i j : Nat} {e f : Pr} (hij : i < j) (he : es[i]? = some e) (hf : es[j]? = some f) : d < f.1.size := by
 obtain ⟨t, h1, h2, h3, h4⟩ := h.srt i j e f hij he hf
 by_cases ht : t < d
 ·have h5 := (h.sz i e he).1
  have h6 := h.alk i j e f t he hf ht
  rcases h4 with h4 | h4 <;> omega
 ·omega
theorem Ok.next {d : Nat} {es : List Pr} (h : Ok d es) (x : Int) (hx : ∀ (j : Nat) (e : Pr), es[j]? = some e → d < e.1.size ∧ bt e.1 d = x) : Ok (d + 1) es where
 pos := h.pos
 few := h.few
 sz j e he := ⟨(hx j e he).1, (h.sz j e he).2⟩
 srt := h.srt
 hlf := h.hlf
 alk i j e f t he hf ht := by
  by_cases h1 : t < d
  ·exact h.alk i j e f t he hf h1
  ·obtain rfl : t = d := by omega
   rw [(hx i e he).2, (hx j f hf).2]
theorem part_at (es : List Pr) (k m j : Nat) : ((es.drop k).take m)[j]? = if j < m then es[k + j]? else none := by
 rw [List.getElem?_take]
 split
 ·rw [List.getElem?_drop]
 ·rfl
theorem part_get {es : List Pr} {k m j : Nat} {e : Pr} (h : ((es.drop k).take m)[j]? = some e) : j < m ∧ es[k + j]? = some e := by
 rw [part_at] at h
 split at h
 ·rename_i hj
  exact ⟨hj, h⟩
 ·cases h
theorem part_len (es : List Pr) (k m : Nat) (h : k + m ≤ es.length) : ((es.drop k).take m).length = m := by
 rw [List.length_take, List.length_drop]
 omega
theorem Ok.part {d : Nat} {es : List Pr} (h : Ok d es) {k m : Nat} (hm : 1 ≤ m) (hk : k + m ≤ es.length) : Ok d ((es.drop k).take m) where
 pos := by rw [part_len es k m hk]; exact hm
 few := by rw [part_len es k m hk]; have := h.few; omega
 sz j e he := h.sz _ e (part_get he).2
 srt i j e f hij he hf := h.srt _ _ e f (by omega) (part_get he).2 (part_get hf).2
 alk i j e f t he hf ht := h.alk _ _ e f t (part_get he).2 (part_get hf).2 ht
 hlf j e t he := h.hlf _ e t (part_get he).2
theorem rn_all (d : Nat) (x : Int) : ∀ (es : List Pr) (j : Nat) (e : Pr), j < rn d x es → es[j]? = some e → bt e.1 d = x
 | [], j, e, h, _ => by simp [rn] at h
 | a :: r, j, e, h, he => by
  simp only [rn] at h
  split at h
  ·rename_i ha
   match j, he with
   | 0, he =>
    cases he
    exact ha
   | j + 1, he => exact rn_all d x r j e (by omega) he
  ·omega
theorem Ok.bridge {d : Nat} {es : List Pr} (h : Ok d es) {e g : Pr} (he : es[0]? = some e) (hg : es[es.length - 1]? = some g) (a : Nat) (h1 : d + a ≤ e.1.size) (h2 : d + a ≤ g.1.size) (hc : ∀ s, s < a → bt e.1 (d + s) = bt g.1 (d + s)) : Ok (d + a) es := by
 have hc' : ∀ t, t < d + a → bt e.1 t = bt g.1 t := fun t ht => by
  by_cases h3 : t < d
  ·exact h.alk _ _ e g t he hg h3
  ·have := hc (t - d) (by omega)
   rw [show d + (t - d) = t by omega] at this
   exact this
 have key : ∀ (j : Nat) (f : Pr), es[j]? = some f → d + a ≤ f.1.size ∧ ∀ t, t < d + a → bt e.1 t = bt f.1 t := fun j f hf => by
  have hjl := (List.getElem?_eq_some_iff.1 hf).1
  by_cases hj0 : j = 0
  ·subst hj0
   rw [he] at hf
   cases hf
   exact ⟨h1, fun _ _ => rfl⟩
  ·by_cases hjn : j = es.length - 1
   ·subst hjn
    rw [hg] at hf
    cases hf
    exact ⟨h2, hc'⟩
   ·obtain ⟨t1, p1, p2, p3, p4⟩ := h.srt 0 j e f (by omega) he hf
    obtain ⟨t2, q1, q2, q3, q4⟩ := h.srt j (es.length - 1) f g (by omega) hf hg
    have ht : d + a ≤ t1 := by
     by_cases ht : d + a ≤ t1
     ·exact ht
     ·exfalso
      have p5 : bt e.1 t1 < bt f.1 t1 := by
       rcases p4 with p4 | p4
       ·omega
       ·exact p4
      have p6 := hc' t1 (by omega)
      by_cases h3 : t2 < t1
      ·have h4 := p3 t2 h3
       have h5 := hc' t2 (by omega)
       rcases q4 with q4 | q4 <;> omega
      ·by_cases h4 : t2 = t1
       ·subst h4
        rcases q4 with q4 | q4 <;> omega
       ·have := q3 t1 (by omega)
        omega
    exact ⟨by omega, fun t h3 => p3 t (by omega)⟩
 exact ⟨h.pos, h.few, fun j f hf => ⟨(key j f hf).1, (h.sz j f hf).2⟩, h.srt, fun i j f f2 t hf hf2 ht => by rw [← (key i f hf).2 t ht, ← (key j f2 hf2).2 t ht], h.hlf⟩

def lfN (p v : ByteArray) : Nd := .mk (.mk true ⟨#[]⟩ [.mk false (fmS p true) [], .mk false v []]) .nil
def Sts.snoc : Sts → ByteArray → Nd → Sts
 | .nil, p, n => .cons p n .nil
 | .cons q m r, p, n => .cons q m (r.snoc p n)
theorem Sts.snoc_len : ∀ (s : Sts) (p : ByteArray) (n : Nd), (s.snoc p n).len = s.len + 1
 | .nil, _, _ => rfl
 | .cons _ _ r, p, n => by
  show (r.snoc p n).len + 1 = r.len + 1 + 1
  rw [Sts.snoc_len r p n]
def zIt : It := .mk false ⟨#[]⟩ []
def oneB (h : Int) : ByteArray := ⟨#[UInt8.ofNat h.toNat]⟩
def fkI (v : ByteArray) (ks : List (Int × Nd)) : List It := ks.foldl (fun l k => l.set k.1.toNat (refI k.2.x)) (List.replicate 16 zIt ++ [.mk false v []])
def fkS (ks : List (Int × Nd)) : Sts := ks.foldl (fun s k => s.snoc (oneB k.1) k.2) .nil
theorem fkI_snoc (v : ByteArray) (ks : List (Int × Nd)) (k : Int × Nd) : fkI v (ks ++ [k]) = (fkI v ks).set k.1.toNat (refI k.2.x) := by unfold fkI; rw [List.foldl_append]; rfl
theorem fold_len (ks : List (Int × Nd)) : ∀ l : List It, (ks.foldl (fun l k => l.set k.1.toNat (refI k.2.x)) l).length = l.length := by
 induction ks with
 | nil => intro l; rfl
 | cons k r ih => intro l; rw [List.foldl_cons, ih, List.length_set]
theorem fkI_len (v : ByteArray) (ks : List (Int × Nd)) : (fkI v ks).length = 17 := by unfold fkI; rw [fold_len]; rfl
def vlE (d : Nat) (es : List Pr) : ByteArray := match es with
 | e :: _ => if e.1.size = d then e.2 else ⟨#[]⟩
 | [] => ⟨#[]⟩
def rsE (d : Nat) (es : List Pr) : List Pr := match es with
 | e :: r => if e.1.size = d then r else es
 | [] => []
def kdE (nd : List Pr → Nd) (d : Nat) (rs : List Pr) (g : Nat × Nat) : Int × Nd := (hfA d rs g.1, nd ((rs.drop g.1).take g.2))
def fkN (nd : List Pr → Nd) (d : Nat) (es : List Pr) : Nd :=
 .mk (.mk true ⟨#[]⟩ (fkI (vlE d es) ((pg d (rsE d es) 0).map (kdE nd d (rsE d es))))) (fkS ((pg d (rsE d es) 0).map (kdE nd d (rsE d es))))
def tl (d : Nat) (e : Pr) : ByteArray := e.1.extract d e.1.size
def ndF : Nat → Nat → List Pr → Nd
 | 0, _, _ => .mk zIt .nil
 | _ + 1, _, [] => .mk zIt .nil
 | _ + 1, d, [e] => lfN (tl d e) e.2
 | f + 1, d, e :: e2 :: r =>
  if common (tl d e) (tl d ((e2 :: r).getLastD e2)) = 0 then fkN (ndF f (d + 1)) d (e :: e2 :: r)
  else brN ((tl d e).extract 0 (common (tl d e) (tl d ((e2 :: r).getLastD e2)))) (ndF f (d + common (tl d e) (tl d ((e2 :: r).getLastD e2))) (e :: e2 :: r))
theorem tl_size (d : Nat) (e : Pr) : (tl d e).size = e.1.size - d := by unfold tl; rw [ByteArray.size_extract]; omega
theorem tl_bt (d : Nat) (e : Pr) (j : Nat) (h : d + j < e.1.size) : bt (tl d e) j = bt e.1 (d + j) := by
 rw [← bt_get (tl d e) j (by rw [tl_size]; omega), ← bt_get e.1 (d + j) h]
 unfold tl
 rw [ByteArray.getElem_extract]
theorem eS_size (x : It) : (eS x).size ≤ 65536 := by
 unfold eS
 split
 ·rename_i h
  unfold eE at h
  split at h
  ·cases h
  ·split at h
   ·split at h
    ·cases h
    ·omega
   ·cases h
 ·exact Nat.zero_le _
theorem tbIs_set : ∀ (l : List It) (i : Nat) (x : It), tbIs (l.set i x) ≤ tbIs l + tbI x
 | [], i, x => by simp [tbIs]
 | a :: r, 0, x => by simp only [List.set_cons_zero, tbIs]; omega
 | a :: r, i + 1, x => by
  have := tbIs_set r i x
  simp only [List.set_cons_succ, tbIs]
  omega
theorem fold_tb : ∀ (ks : List (Int × Nd)) (l : List It), tbIs (ks.foldl (fun l k => l.set k.1.toNat (refI k.2.x)) l) ≤ tbIs l + (ks.map fun k => tbI (refI k.2.x)).sum
 | [], l => by simp
 | k :: r, l => by
  have h1 := fold_tb r (l.set k.1.toNat (refI k.2.x))
  have h2 := tbIs_set l k.1.toNat (refI k.2.x)
  simp only [List.foldl_cons, List.map_cons, List.sum_cons]
  omega
theorem fkI_tb (v : ByteArray) (ks : List (Int × Nd)) : tbIs (fkI v ks) ≤ 153 + v.size + (ks.map fun k => tbI (refI k.2.x)).sum := by
 have h := fold_tb ks (List.replicate 16 zIt ++ [.mk false v []])
 have e : tbIs (List.replicate 16 zIt ++ [.mk false v []]) = 153 + v.size := by
  show tbIs [zIt, zIt, zIt, zIt, zIt, zIt, zIt, zIt, zIt, zIt, zIt, zIt, zIt, zIt, zIt, zIt, .mk false v []] = _
  have : tbI zIt = 9 := rfl
  simp only [tbIs, this, tbI]
  omega
 unfold fkI
 omega
theorem refI_tb (x : It) (B : Nat) (h : tbI x + 400 ≤ B) (hB : 441 ≤ B) : tbI (refI x) + 400 ≤ B := by
 unfold refI
 split
 ·exact h
 ·simp only [tbI, tbIs]
  rw [sum_size]
  omega
theorem pg_sum (d : Nat) (es : List Pr) : ∀ (f k : Nat), es.length ≤ f + k → k ≤ es.length → ((pgF d es f k).map fun g => g.2).sum + k = es.length
 | 0, k, h, h' => by
  simp only [pgF, List.map_nil, List.sum_nil]
  omega
 | f + 1, k, h, h' => by
  simp only [pgF]
  split
  ·rename_i hk
   have h1 := rn_pos (d := d) hk
   have h2 := rn_le d (hfA d es k) (es.drop k)
   rw [List.length_drop] at h2
   have h3 := pg_sum d es f (k + rn d (hfA d es k) (es.drop k)) (by omega) (by omega)
   simp only [List.map_cons, List.sum_cons]
   omega
  ·simp only [List.map_nil, List.sum_nil]
   omega
set_option maxRecDepth 20000 in
theorem sum_step (A C P Q n : Nat) (h1 : A + 400 ≤ P) (h2 : C + 400 * n ≤ Q) : A + C + 400 * (n + 1) ≤ P + Q := by omega
theorem sum_of (B : Nat) (F : Nat × Nat → Nat) : ∀ gs : List (Nat × Nat), (∀ g ∈ gs, F g + 400 ≤ B * g.2) → (gs.map F).sum + 400 * gs.length ≤ B * (gs.map fun g => g.2).sum
 | [], _ => by simp
 | g :: r, h => by
  have h1 := h g (by simp)
  have h2 := sum_of B F r (fun g hg => h g (by simp [hg]))
  simp only [List.map_cons, List.sum_cons, List.length_cons]
  rw [Nat.mul_add B]
  exact sum_step _ _ _ _ _ h1 h2
theorem sum_le (B : Nat) (nd : List Pr → Nd) (d : Nat) (rs : List Pr) (gs : List (Nat × Nat)) (h : ∀ g ∈ gs, tbI (refI (nd ((rs.drop g.1).take g.2)).x) + 400 ≤ B * g.2) : (gs.map fun g => tbI (refI (kdE nd d rs g).2.x)).sum + 400 * gs.length ≤ B * (gs.map fun g => g.2).sum := sum_of B _ gs h
theorem Ok.group {d : Nat} {rs : List Pr} (h : Ok d rs) (hl : ∀ (j : Nat) (e : Pr), rs[j]? = some e → d < e.1.size) {g : Nat × Nat} (hg : g ∈ pg d rs 0) : 1 ≤ g.2 ∧ g.1 + g.2 ≤ rs.length ∧ Ok (d + 1) ((rs.drop g.1).take g.2) := by
 obtain ⟨_, h1, h2⟩ := pg_mem d rs _ _ g hg
 have h3 := rn_pos (d := d) h1
 have h4 := rn_le d (hfA d rs g.1) (rs.drop g.1)
 rw [List.length_drop] at h4
 have h5 : 1 ≤ g.2 := by omega
 have h6 : g.1 + g.2 ≤ rs.length := by omega
 refine ⟨h5, h6, (h.part h5 h6).next (hfA d rs g.1) fun j e he => ?_⟩
 obtain ⟨hj, he'⟩ := part_get he
 refine ⟨hl _ e he', rn_all d _ (rs.drop g.1) j e (by omega) ?_⟩
 rw [List.getElem?_drop]
 exact he'
theorem Ok.rest {d : Nat} {es : List Pr} (h : Ok d es) (h2 : 2 ≤ es.length) : Ok d (rsE d es) ∧ (∀ (j : Nat) (e : Pr), (rsE d es)[j]? = some e → d < e.1.size) ∧ (vlE d es).size ≤ 1000 ∧ (rsE d es = es ∧ vlE d es = ⟨#[]⟩ ∨ (rsE d es).length + 1 = es.length) := by
 match es, h, h2 with
 | e :: r, h, h2 =>
  have he : (e :: r)[0]? = some e := rfl
  unfold rsE vlE
  dsimp only
  split
  ·have hr : Ok d r := by
    have := h.part (k := 1) (m := r.length) (by simp at h2; omega) (by simp; omega)
    simpa using this
   refine ⟨hr, fun j f hf => h.longer (i := 0) (j := j + 1) (by omega) he (by simpa using hf), (h.sz 0 e he).2.2, .inr rfl⟩
  ·rename_i hne
   refine ⟨h, fun j f hf => ?_, Nat.zero_le _, .inl ⟨rfl, rfl⟩⟩
   by_cases hj : j = 0
   ·subst hj
    rw [he] at hf
    cases hf
    have := (h.sz 0 e he).1
    omega
   ·exact h.longer (i := 0) (j := j) (by omega) he hf
theorem fork_tb (nd : List Pr → Nd) (d : Nat) (es : List Pr) (h : Ok d es) (h2 : 2 ≤ es.length) (hg : rsE d es = es → 2 ≤ (pg d es 0).length)
  (hn : ∀ gs : List Pr, Ok (d + 1) gs → tbI (nd gs).x + 400 ≤ 1600 * gs.length) : tbI (fkN nd d es).x + 600 ≤ 1600 * es.length := by
 obtain ⟨k1, k2, k3, k4⟩ := h.rest h2
 have hs := pg_sum d (rsE d es) ((rsE d es).length - 0) 0 (by omega) (Nat.zero_le _)
 have hle := sum_le 1600 nd d (rsE d es) (pg d (rsE d es) 0) (fun g hg => by
  obtain ⟨g1, g2, g3⟩ := k1.group k2 hg
  have h3 := hn _ g3
  rw [part_len _ _ _ g2] at h3
  exact refI_tb _ _ h3 (by omega))
 have hf := fkI_tb (vlE d es) ((pg d (rsE d es) 0).map (kdE nd d (rsE d es)))
 rw [List.map_map] at hf
 have e : ((fun k : Int × Nd => tbI (refI k.2.x)) ∘ kdE nd d (rsE d es)) = fun g => tbI (refI (kdE nd d (rsE d es) g).2.x) := rfl
 rw [e] at hf
 have et : tbI (fkN nd d es).x = 0 + 9 + tbIs (fkI (vlE d es) ((pg d (rsE d es) 0).map (kdE nd d (rsE d es)))) := by unfold fkN; rfl
 rw [et]
 change ((pg d (rsE d es) 0).map fun g => g.2).sum + 0 = _ at hs
 have hp := k1.pos
 have hp1 : 1 ≤ (pg d (rsE d es) 0).length := by
  rw [pg_eq, if_pos (by omega)]
  simp
 rcases k4 with ⟨k4, k5⟩ | k4
 ·have := hg k4
  rw [k5] at hf ⊢
  simp only [k4] at hf hle hs hp1 ⊢
  have : (⟨#[]⟩ : ByteArray).size = 0 := rfl
  omega
 ·omega
theorem n_bt_eq (s : ByteArray) (j : Nat) : n_bt s j = bt s j := rfl
theorem parts_two {d : Nat} {es : List Pr} (h : Ok d es) (h2 : 2 ≤ es.length) {e g : Pr} (he : es[0]? = some e) (hg : es[es.length - 1]? = some g) (hd : d < e.1.size) (hc : common (tl d e) (tl d g) = 0) : 2 ≤ (pg d es 0).length := by
 have hd2 : d < g.1.size := h.longer (i := 0) (j := es.length - 1) (by omega) he hg
 have hs := (common_spec (tl d e) (tl d g)).2.2.2
 rw [hc, n_bt_eq, n_bt_eq, tl_size, tl_size, tl_bt d e 0 (by omega), tl_bt d g 0 (by omega)] at hs
 have hne : bt e.1 d ≠ bt g.1 d := fun h' => hs ⟨by omega, by omega, h'⟩
 have h1 := pg_eq d es 0
 rw [if_pos (by omega)] at h1
 have hr := rn_le d (hfA d es 0) (es.drop 0)
 rw [List.length_drop] at hr
 have hlt : rn d (hfA d es 0) (es.drop 0) < es.length := by
  by_cases h3 : rn d (hfA d es 0) (es.drop 0) < es.length
  ·exact h3
  ·have h4 := rn_all d (hfA d es 0) (es.drop 0) (es.length - 1) g (by omega) (by rw [List.drop_zero]; exact hg)
   rw [hfA_at he] at h4
   exact absurd h4.symm hne
 rw [h1, pg_eq d es (0 + _), if_pos (by omega)]
 simp
theorem brN_tb (q : ByteArray) (n : Nd) (hq : q.size ≤ 128) (B : Nat) (h : tbI n.x + 600 ≤ B) (hB : 641 ≤ B) : tbI (brN q n).x + 400 ≤ B := by
 have h1 := fm_size q false
 have h2 := refI_tb n.x (B - 200) (by omega) (by omega)
 have e : tbI (brN q n).x = 0 + 9 + (((fmS q false).size + 9 + 0) + (tbI (refI n.x) + 0)) := by unfold brN; rfl
 rw [e]
 clear e
 generalize tbI (refI n.x) = A at h2 ⊢
 omega
theorem lfN_tb (q v : ByteArray) (hq : q.size ≤ 128) (hv : v.size ≤ 1000) : tbI (lfN q v).x + 400 ≤ 1600 := by
 have h1 := fm_size q true
 have e : tbI (lfN q v).x = 0 + 9 + (((fmS q true).size + 9 + 0) + ((v.size + 9 + 0) + 0)) := by unfold lfN; rfl
 rw [e]
 clear e
 omega
theorem last_at (e e2 : Pr) (r : List Pr) : (e :: e2 :: r)[(e :: e2 :: r).length - 1]? = some ((e2 :: r).getLastD e2) := by
 rw [← List.getLast?_eq_getElem?]
 simp only [List.getLastD]
 rw [List.getLast?_cons_cons]
 exact List.getLast?_eq_some_getLast _
theorem common_ends (d : Nat) (e g : Pr) (hd : d ≤ e.1.size) (hd2 : d ≤ g.1.size) : common (tl (d + common (tl d e) (tl d g)) e) (tl (d + common (tl d e) (tl d g)) g) = 0 := by
 obtain ⟨h1, h2, h3, h4⟩ := common_spec (tl d e) (tl d g)
 obtain ⟨a, ha⟩ : ∃ a, common (tl d e) (tl d g) = a := ⟨_, rfl⟩
 rw [ha] at h1 h2 h3 h4 ⊢
 rw [tl_size] at h1 h2 h4
 rw [tl_size] at h4
 refine (common_is _ _ 0 (Nat.zero_le _) (Nat.zero_le _) (fun j hj => by omega) fun h => h4 ?_).symm
 rw [tl_size, tl_size, n_bt_eq, n_bt_eq] at h
 obtain ⟨k1, k2, k3⟩ := h
 refine ⟨by omega, by omega, ?_⟩
 rw [tl_bt _ e 0 (by omega), tl_bt _ g 0 (by omega)] at k3
 rw [n_bt_eq, n_bt_eq, tl_bt d e a (by omega), tl_bt d g a (by omega)]
 exact k3
theorem common_ok {d : Nat} {es : List Pr} (h : Ok d es) {e g : Pr} (he : es[0]? = some e) (hg : es[es.length - 1]? = some g) : Ok (d + common (tl d e) (tl d g)) es := by
 obtain ⟨h1, h2, h3, h4⟩ := common_spec (tl d e) (tl d g)
 rw [tl_size] at h1 h2
 have k1 := (h.sz _ e he).1
 have k2 := (h.sz _ g hg).1
 refine h.bridge he hg _ (by omega) (by omega) fun s hs => ?_
 have := h3 s hs
 rw [n_bt_eq, n_bt_eq, tl_bt d e s (by omega), tl_bt d g s (by omega)] at this
 exact this
theorem nd_fork (f d : Nat) (e e2 : Pr) (r : List Pr) (h : common (tl d e) (tl d ((e2 :: r).getLastD e2)) = 0) : ndF (f + 1) d (e :: e2 :: r) = fkN (ndF f (d + 1)) d (e :: e2 :: r) := by
 simp only [ndF]
 rw [if_pos h]
theorem nd_bridge (f d : Nat) (e e2 : Pr) (r : List Pr) (a : Nat) (ha : common (tl d e) (tl d ((e2 :: r).getLastD e2)) = a) (h : a ≠ 0) : ndF (f + 1) d (e :: e2 :: r) = brN ((tl d e).extract 0 a) (ndF f (d + a) (e :: e2 :: r)) := by
 simp only [ndF]
 rw [ha, if_neg h]
theorem nd_tb : ∀ (N f : Nat), f ≤ N → ∀ (d : Nat) (es : List Pr), Ok d es → tbI (ndF f d es).x + 400 ≤ 1600 * es.length ∧ (∀ e g : Pr, es[0]? = some e → es[es.length - 1]? = some g → 2 ≤ es.length → common (tl d e) (tl d g) = 0 → tbI (ndF f d es).x + 600 ≤ 1600 * es.length) := by
 intro N
 induction N with
 | zero =>
  intro f hf d es h
  obtain rfl : f = 0 := by omega
  have := h.pos
  have e : tbI (ndF 0 d es).x = 9 := rfl
  rw [e]
  exact ⟨by omega, fun _ _ _ _ _ _ => by omega⟩
 | succ N IH =>
  intro f hf d es h
  match f, es, h with
  | 0, es, h =>
   have := h.pos
   have e : tbI (ndF 0 d es).x = 9 := rfl
   rw [e]
   exact ⟨by omega, fun _ _ _ _ _ _ => by omega⟩
  | f + 1, [], h => exact absurd h.pos (by simp)
  | f + 1, [e], h =>
   have h0 := h.sz 0 e rfl
   exact ⟨lfN_tb _ _ (by rw [tl_size]; omega) h0.2.2, fun _ _ _ _ h2 _ => by simp at h2⟩
  | f + 1, e :: e2 :: r, h =>
   have he : (e :: e2 :: r)[0]? = some e := rfl
   have hg := last_at e e2 r
   have h2 : 2 ≤ (e :: e2 :: r).length := by simp
   obtain ⟨g, hgg⟩ : ∃ g, (e2 :: r).getLastD e2 = g := ⟨_, rfl⟩
   rw [hgg] at hg
   have fork : common (tl d e) (tl d g) = 0 → tbI (ndF (f + 1) d (e :: e2 :: r)).x + 600 ≤ 1600 * (e :: e2 :: r).length := fun hc => by
    rw [nd_fork f d e e2 r (by rw [hgg]; exact hc)]
    refine fork_tb _ _ _ h h2 (fun hr => ?_) (fun gs hgs => (IH f (by omega) (d + 1) gs hgs).1)
    have hd : d < e.1.size := by
     have := (h.rest h2).2.1 0 e (by rw [hr]; rfl)
     exact this
    exact parts_two h h2 he hg hd hc
   by_cases hc : common (tl d e) (tl d g) = 0
   ·have h3 := fork hc
    exact ⟨by omega, fun _ _ _ _ _ _ => h3⟩
   ·refine ⟨?_, fun e' g' he' hg' _ hc' => ?_⟩
    ·rw [nd_bridge f d e e2 r _ (by rw [hgg]) hc]
     have hok := common_ok h he hg
     have hend := common_ends d e g (h.sz _ e he).1 (h.sz _ g hg).1
     have h4 := (IH f (by omega) _ _ hok).2 e g he hg h2 hend
     refine brN_tb _ _ ?_ _ h4 (by omega)
     have := (h.sz _ e he).2.1
     rw [ByteArray.size_extract, tl_size]
     omega
    ·rw [he] at he'
     rw [hg] at hg'
     cases he'
     cases hg'
     exact absurd hc' hc
end Go.Proofs.YtbmapdkcccdmfaaGreatDoor
namespace Go.Proofs.YtbmapdkcccdmfaaGreatDoor
open Go.RowKit Go.Shelf Go.Sort

def NdC (f : Nat) : Prop := ∀ (d : Nat) (es : List Pr), 129 ≤ f + d → Ok d es → ∀ (b o c : Nat) (w : World), Laid w → b < w.heap.size → es.length ≤ c → prs w b o es →
 Calls Tryz.prog 58 #[.slice (some ⟨b, o, none⟩) es.length c, .int .i64 d] w fun e w' => Below w.heap.size w w' ∧ ∃ b', e = .returned (.pointer (some ⟨b', 0, none⟩)) ∧ ndIn (fun k => w.heap.size ≤ k ∧ k < w'.heap.size) w' b' (ndF f d es)
def FkC (f : Nat) : Prop := ∀ (d : Nat) (es : List Pr), 129 ≤ f + 1 + d → Ok d es → 2 ≤ es.length → tbI (fkN (ndF f (d + 1)) d es).x ≤ 1000000 → ∀ (b o c : Nat) (w : World), Laid w → b < w.heap.size → es.length ≤ c → prs w b o es →
 Calls Tryz.prog 94 #[.slice (some ⟨b, o, none⟩) es.length c, .int .i64 d] w fun e w' => Below w.heap.size w w' ∧ ∃ b', e = .returned (.pointer (some ⟨b', 0, none⟩)) ∧ ndIn (fun k => w.heap.size ≤ k ∧ k < w'.heap.size) w' b' (fkN (ndF f (d + 1)) d es)

structure BrK (w9 : World) (p1 : ByteArray) (a d da N b o c : Nat) (nd : Nd) (S : Nat → Bool) (x37 x38 x39 x40 x41 x42 x43 x44 : Value) (W : World) : Prop where
 e : Below w9.heap.size w9 W
 f0 : S 0 = true → x37 = Value.string p1
 f1 : S 1 = true → x38 = Value.int .i64 (a : Int)
 f2 : S 2 = true → x39 = Value.string (p1.extract 0 a)
 f3 : S 3 = true → x40 = Value.slice (some ⟨b, o, none⟩) N c
 f4 : S 4 = true → x41 = Value.int .i64 (d : Int)
 f5 : S 5 = true → x42 = Value.int .i64 (a : Int)
 f6 : S 6 = true → x43 = Value.int .i64 (da : Int)
 f7 : S 7 = true → ∃ b', x44 = .pointer (some ⟨b', 0, none⟩) ∧ ndIn (fun k => w9.heap.size ≤ k ∧ k < W.heap.size) W b' nd
theorem BrK.grow {w9 : World} {p1 : ByteArray} {a d da N b o c : Nat} {nd : Nd} {S : Nat → Bool} {x37 x38 x39 x40 x41 x42 x43 x44 : Value} {W W' : World} (h : BrK w9 p1 a d da N b o c nd S x37 x38 x39 x40 x41 x42 x43 x44 W) (hb : Below W.heap.size W W') : BrK w9 p1 a d da N b o c nd S x37 x38 x39 x40 x41 x42 x43 x44 W' :=
 ⟨belowStep h.e h.e.size hb, h.f0, h.f1, h.f2, h.f3, h.f4, h.f5, h.f6, fun s => (let ⟨b', h1, h2⟩ := (h.f7 s); ⟨b', h1, ndIn_of (fun k hk => ⟨⟨hk.1, Nat.lt_of_lt_of_le hk.2 hb.size⟩, hb.block k hk.2⟩) _ _ h2⟩)⟩
set_option maxRecDepth 20000 in
set_option maxHeartbeats 2000000 in
theorem node_step (f : Nat) (KF : FkC f) (KN : NdC f) : NdC (f + 1) := by
 intro d es hf hok b o c w hl hb hcap hp
 have hN := hok.few
 have hN1 := hok.pos
 obtain ⟨e, he⟩ : ∃ e, es[0]? = some e := ⟨es[0]'(by omega), List.getElem?_eq_getElem (by omega)⟩
 obtain ⟨g, hg⟩ : ∃ g, es[es.length - 1]? = some g := ⟨es[es.length - 1]'(by omega), List.getElem?_eq_getElem (by omega)⟩
 have se := hok.sz _ e he
 have sg := hok.sz _ g hg
 have pe := hp _ e he
 have pge := hp _ g hg
 have htl : (tl d e).size ≤ 128 := by rw [tl_size]; omega
 have htl2 : (tl d g).size ≤ 128 := by rw [tl_size]; omega
 have HFC : Hid (FkC f) := KF
 have HNC : Hid (NdC f) := KN
 clear KF KN
 obtain ⟨N, hNe⟩ : ∃ N, es.length = N := ⟨_, rfl⟩
 obtain ⟨M, hM⟩ : ∃ M, es.length - 1 = M := ⟨_, rfl⟩
 rw [hM] at hg pge
 have HL : Hid (es.length = N) := hNe
 rw [hNe] at hN hN1 hM hcap ⊢
 clear hNe
 obtain ⟨r, hr⟩ : ∃ x, o + 2 * M = x := ⟨_, rfl⟩
 rw [hr] at pge
 have hr2 : o + M * 2 = r := by omega
 have l1 : (0 : Int) < N := by omega
 have l2 : (M : Int) < N := by omega
 have l3 : (N : Int) - 1 = M := by omega
 have l4 : IntKind.i64.wrap (M : Int) = M := by rw [IntKind.wrap_i64]; omega
 have ld : (d : Int) ≤ e.1.size := by omega
 have ld2 : (d : Int) ≤ g.1.size := by omega
 have c0 : w.cell? ⟨b, o, none⟩ = some (.string e.1) := pe.1
 have c1 : w.cell? ⟨b, o + 1, none⟩ = some (.string e.2) := pe.2
 have c2 := pge.1
 have q0 : ∀ u os, (grow (redrawn w u) os).cell? ⟨b, o, none⟩ = some (.string e.1) := fun u os => ((below_regrown w u os).cell (p := ⟨b, o, none⟩) hb).trans c0
 have q1 : ∀ u os, (grow (redrawn w u) os).cell? ⟨b, r, none⟩ = some (.string g.1) := fun u os => ((below_regrown w u os).cell (p := ⟨b, r, none⟩) hb).trans c2
 go_enter Tryz.func58, Tryz.ntmps58
 go_wp2_with fail
 refine wp_region_quiet_below (by kernel_rfl) (by kernel_rfl) ?_
 repeat (go_big_quiet_step (fail))
 refine wpQuiet_nil ?_
 intro w8 hw8
 have B8 : Below w.heap.size w w8 := by
  obtain ⟨p, rfl⟩ := hw8
  exact below_regrown _ _ _
 have c1' := (B8.cell (p := ⟨b, o + 1, none⟩) hb).trans c1
 have hp8 := prs_below B8 hb hp
 have hl8 := hl.below B8
 have hb8 := Nat.lt_of_lt_of_le hb B8.size
 clear hw8 q0 q1 c0 c1 c2 pe pge
 obtain ⟨p1, t1⟩ : ∃ p, e.1.extract d e.1.size = p := ⟨_, rfl⟩
 obtain ⟨p2, t2⟩ : ∃ p, g.1.extract d g.1.size = p := ⟨_, rfl⟩
 rw [show tl d e = p1 from t1] at htl
 rw [show tl d g = p2 from t2] at htl2
 rw [t1, t2]
 have HT : Hid (tl d e = p1 ∧ tl d g = p2) := ⟨t1, t2⟩
 clear t1 t2
 by_cases h1 : N = 1
 ·have l5 : ((N : Int) == 1) = true := by rw [h1]; rfl
  have KL := leafOf_any p1 e.2 (by omega) se.2.2 w8
  have HE : Hid (ndF (f + 1) d es = lfN p1 e.2) := by
   have h2 := HL.out
   rw [h1] at h2
   obtain ⟨x, hx⟩ := List.length_eq_one_iff.1 h2
   rw [hx] at he ⊢
   cases he
   show lfN (tl d e) e.2 = _
   rw [HT.out.1]
  subst h1
  go_wp2_with fail
  refine KL.mono ?_
  rintro e' w9 ⟨B9, b', rfl, hnd⟩
  have BW := belowStep B8 B8.size B9
  have hs8 := B8.size
  have HF : Hid (_ ∧ _) := ⟨BW, hnd⟩
  clear KL B9 BW hnd c1' hp8 hl8
  go_wp2
  go_ret
  refine ⟨HF.out.1, b', rfl, ?_⟩
  rw [HE.out]
  exact ndIn_mono (fun k hk => ⟨by omega, hk.2⟩) _ _ HF.out.2
 ·have l5 : ((N : Int) == 1) = false := by rw [beq_eq_false_iff_ne]; omega
  have KC := common_any p1 p2 (by omega) w8
  have HX : Hid (∃ e2 r, es = e :: e2 :: r ∧ (e2 :: r).getLastD e2 = g) := by
   have h2 := HL.out
   match es, he, hg, h2 with
   | [x], _, _, h2 => exact absurd h2.symm h1
   | x :: e2 :: r, he, hg, h2 =>
    cases he
    refine ⟨e2, r, rfl, ?_⟩
    have h3 := last_at e e2 r
    rw [h2, hM, hg] at h3
    injection h3 with h3
    exact h3.symm
  have htb := (nd_tb (f + 1) (f + 1) (Nat.le_refl _) d es hok).1
  have hspec := common_spec p1 p2
  have hok2 := common_ok hok he (by rw [HL.out, hM]; exact hg)
  have htb2 := fun d' h => (nd_tb f f (Nat.le_refl _) d' es h).1
  rw [HL.out] at htb htb2
  rw [HT.out.1, HT.out.2] at hok2
  obtain ⟨a, ha⟩ : ∃ a, common p1 p2 = a := ⟨_, rfl⟩
  rw [ha] at KC hspec hok2
  go_wp2_with fail
  refine KC.mono ?_
  rintro e' w9 ⟨rfl, B9⟩
  have BW := belowStep B8 B8.size B9
  have hs9 := BW.size
  have hp9 := prs_below BW hb hp
  have hl9 := hl.below BW
  have hb9 := Nat.lt_of_lt_of_le hb hs9
  clear KC B9 B8 c1' hp8 hl8 hb8
  by_cases h0 : a = 0
  ·have l6 : ¬ (0 : Int) < a := by omega
   have HE : Hid (ndF (f + 1) d es = fkN (ndF f (d + 1)) d es) := by
    obtain ⟨e2, r', h2, h3⟩ := HX.out
    rw [h2]
    exact nd_fork f d e e2 r' (by rw [h3, HT.out.1, HT.out.2, ha, h0])
   have KK := HFC.out d es hf hok (by rw [HL.out]; omega) (by rw [← HE.out]; omega) b o c w9 hl9 hb9 (by rw [HL.out]; exact hcap) hp9
   rw [HL.out] at KK
   subst h0
   have HW : Hid (_ ∧ _) := ⟨BW, hs9⟩
   clear BW hspec hok2 htb htb2 hl9 hp9
   go_wp2_with fail
   refine KK.mono ?_
   rintro e' w10 ⟨B10, b', rfl, hnd⟩
   have HF : Hid (_ ∧ _) := ⟨B10, hnd⟩
   clear KK B10 hnd
   go_wp2
   go_ret
   refine ⟨belowStep HW.out.1 hs9 HF.out.1, b', rfl, ?_⟩
   rw [HE.out]
   exact ndIn_mono (fun k hk => ⟨by omega, hk.2⟩) _ _ HF.out.2
  ·have l6 : (0 : Int) < a := by omega
   have l7 : (a : Int) ≤ p1.size := by omega
   have l8 : (d : Int) + a = ((d + a : Nat) : Int) := by omega
   have l9 : IntKind.i64.wrap ((d + a : Nat) : Int) = ((d + a : Nat) : Int) := by rw [IntKind.wrap_i64]; omega
   have HE : Hid (ndF (f + 1) d es = brN (p1.extract 0 a) (ndF f (d + a) es)) := by
    obtain ⟨e2, r', h2, h3⟩ := HX.out
    rw [h2, ← HT.out.1]
    exact nd_bridge f d e e2 r' a (by rw [h3, HT.out.1, HT.out.2, ha]) h0
   have KK := fun W (hB : Below w9.heap.size w9 W) => HNC.out (d + a) es (by omega) hok2 b o c W (hl9.below hB) (Nat.lt_of_lt_of_le hb9 hB.size) (by rw [HL.out]; exact hcap) (prs_below hB hb9 hp9)
   rw [HL.out] at KK
   have h2 := htb2 (d + a) hok2
   have HW : Hid (_ ∧ _ ∧ _) := ⟨BW, h2, hl9⟩
   clear BW hspec hok2 htb htb2 hl9 hp9 h2
   obtain ⟨da, hda⟩ : ∃ x, d + a = x := ⟨_, rfl⟩
   rw [hda] at KK l8 l9 HE HW
   obtain ⟨nd, hnd0⟩ : ∃ x, ndF f da es = x := ⟨_, rfl⟩
   rw [hnd0] at KK HE HW
   go_wp2_with fail
   rw [show decide (0 < a) = true from decide_eq_true (by omega)]
   refine region_inv_tail 8 (fun S aa W => ∃ x37 x38 x39 x40 x41 x42 x43 x44 : Value, aa = { tmps := #[Value.slice (some ⟨b, o, none⟩) N c, Value.int IntKind.i64 (d : Int), undef, undef, Value.pointer none, Value.string p1, Value.string p2, Value.int IntKind.i64 (a : Int), Value.slice (some ⟨b, o, none⟩) N c, Value.pointer (some ⟨b, o, none⟩), Value.pointer (some ⟨b, o, none⟩), Value.string e.fst, Value.int IntKind.i64 (d : Int), Value.string p1, Value.slice (some ⟨b, o, none⟩) N c, Value.slice (some ⟨b, o, none⟩) N c, Value.int IntKind.i64 (N : Int), Value.int IntKind.i64 (M : Int), Value.pointer (some ⟨b, r, none⟩), Value.pointer (some ⟨b, r, none⟩), Value.string g.fst, Value.int IntKind.i64 (d : Int), Value.string p2, Value.slice (some ⟨b, o, none⟩) N c, Value.int IntKind.i64 (N : Int), Value.bool false, undef, undef, undef, undef, undef, undef, Value.string p1, Value.string p2, Value.int IntKind.i64 (a : Int), Value.int IntKind.i64 (a : Int), Value.bool (true), x37, x38, x39, x40, x41, x42, x43, x44, undef, undef, undef, undef], defers := [] } ∧ BrK w9 p1 a d da N b o c nd S x37 x38 x39 x40 x41 x42 x43 x44 W) (by kernel_rfl) (by kernel_rfl) ?_ ?_ ?_
   ·exact ⟨undef, undef, undef, undef, undef, undef, undef, undef, rfl, ⟨(Below.refl _ w9).drew, nofun, nofun, nofun, nofun, nofun, nofun, nofun, nofun⟩⟩
   ·intro i o S aa W hin hi hun hJ hall K hK
    obtain ⟨x37, x38, x39, x40, x41, x42, x43, x44, rfl, h⟩ := hJ
    have hlt : i < 8 := hin
    have hcase : i = 0 ∨ i = 1 ∨ i = 2 ∨ i = 3 ∨ i = 4 ∨ i = 5 ∨ i = 6 ∨ i = 7 := by omega
    rcases hcase with rfl | rfl | rfl | rfl | rfl | rfl | rfl | rfl
    all_goals (have ho := (Option.some.inj hi).symm; subst ho; clear hi hlt hin)
    ·go_simp
     exact hK _ _ ⟨_, _, _, _, _, _, _, _, rfl, { h with f0 := fun _ => rfl }⟩
    ·go_simp
     exact hK _ _ ⟨_, _, _, _, _, _, _, _, rfl, { h with f1 := fun _ => rfl }⟩
    ·have s_0 : S 0 = true := hall ⟨0, .data⟩ (by simp) rfl
     obtain rfl := h.f0 s_0
     have s_1 : S 1 = true := hall ⟨1, .data⟩ (by simp) rfl
     obtain rfl := h.f1 s_1
     go_simp
     exact hK _ _ ⟨_, _, _, _, _, _, _, _, rfl, { h with f2 := fun _ => rfl }⟩
    ·go_simp
     exact hK _ _ ⟨_, _, _, _, _, _, _, _, rfl, { h with f3 := fun _ => rfl }⟩
    ·go_simp
     exact hK _ _ ⟨_, _, _, _, _, _, _, _, rfl, { h with f4 := fun _ => rfl }⟩
    ·go_simp
     exact hK _ _ ⟨_, _, _, _, _, _, _, _, rfl, { h with f5 := fun _ => rfl }⟩
    ·have s_4 : S 4 = true := hall ⟨4, .data⟩ (by simp) rfl
     obtain rfl := h.f4 s_4
     have s_5 : S 5 = true := hall ⟨5, .data⟩ (by simp) rfl
     obtain rfl := h.f5 s_5
     go_simp
     exact hK _ _ ⟨_, _, _, _, _, _, _, _, rfl, { h with f6 := fun _ => rfl }⟩
    ·have s_3 : S 3 = true := hall ⟨3, .data⟩ (by simp) rfl
     obtain rfl := h.f3 s_3
     have s_6 : S 6 = true := hall ⟨6, .data⟩ (by simp) rfl
     obtain rfl := h.f6 s_6
     go_simp
     refine (KK W h.e).mono ?_
     rintro e' w3 ⟨hb3, b3, rfl, hn3⟩
     have h1 := h.grow hb3
     have hsz := h.e.size
     exact hK _ _ ⟨_, _, _, _, _, _, _, _, rfl, { h1 with f7 := fun _ => ⟨b3, rfl, ndIn_mono (fun k hk => ⟨Nat.le_trans hsz hk.1, hk.2⟩) _ _ hn3⟩ }⟩
   ·rintro S aa W hall ⟨x37, x38, x39, x40, x41, x42, x43, x44, rfl, h⟩
    obtain rfl := h.f0 (hall 0 (by decide))
    obtain rfl := h.f1 (hall 1 (by decide))
    obtain rfl := h.f2 (hall 2 (by decide))
    obtain rfl := h.f3 (hall 3 (by decide))
    obtain rfl := h.f4 (hall 4 (by decide))
    obtain rfl := h.f5 (hall 5 (by decide))
    obtain rfl := h.f6 (hall 6 (by decide))
    obtain ⟨b7, rfl, hn7⟩ := h.f7 (hall 7 (by decide))
    have BWD := h.e
    clear h hall
    have hs9' := BWD.size
    obtain ⟨BW, h2, hl9⟩ := HW.out
    have KB := bridgeOf_any (p1.extract 0 a) nd (by rw [ByteArray.size_extract]; omega) (by have := refI_tb _ _ h2 (by omega); omega) b7 _ W (hl9.below BWD) (Nat.le_trans (eS_size _) (by omega)) (fun k hk => hk.2) hn7
    have HW2 : Hid (_ ∧ _) := ⟨BW, BWD⟩
    clear BWD h2 hl9 BW hn7
    go_wp2_with fail
    refine KB.mono ?_
    rintro e' w10 ⟨B10, b', rfl, hnd⟩
    have HF : Hid (_ ∧ _) := ⟨B10, hnd⟩
    clear KB B10 hnd
    go_wp2
    go_ret
    obtain ⟨BW, BWD⟩ := HW2.out
    have hs10 := HF.out.1.size
    refine ⟨belowStep BW BW.size (belowStep BWD hs9' HF.out.1), b', rfl, ?_⟩
    rw [HE.out]
    exact ndIn_mono (fun k hk => hk.elim (fun h => ⟨by omega, by omega⟩) fun h => ⟨by omega, h.2⟩) _ _ HF.out.2
end Go.Proofs.YtbmapdkcccdmfaaGreatDoor
namespace Go.Proofs.YtbmapdkcccdmfaaGreatDoor
open Go.RowKit Go.Shelf Go.Sort

def ItsIn (bI : Nat) (p : Nat → Prop) (W : World) (l : List It) : Prop := ∃ (cl : List Value) (ims : List Im), W.ownsRow bI 50 3 (.slice (some ⟨bI, 0, none⟩) 17 17) 17 cl ∧ Held cl ims ∧ ims.length = 17 ∧ ers ims = l ∧ ∀ y, y ∈ ims → inP p W y
theorem its_new {W : World} {bI : Nat} (p : Nat → Prop) (h : W.ownsRow bI 50 3 (.slice (some ⟨bI, 0, none⟩) 17 17) 17 (madeCells (Value.agg #[.bool false, .string ⟨#[]⟩, .slice none 0 0]).cells (17 * 3)).toList) : ItsIn bI p W (List.replicate 16 zIt ++ [.mk false ⟨#[]⟩ []]) := by
 refine ⟨_, List.replicate 17 zeroI, h, ?_, by simp, rfl, fun y hy => ?_⟩
 ·intro j x hx
  have hj := (List.getElem?_eq_some_iff.1 hx).1
  match j, hx with
  | 0, h => cases h; exact ⟨by simp [madeCells]; rfl, by simp [madeCells]; rfl, by simp [madeCells]; rfl⟩
  | 1, h => cases h; exact ⟨by simp [madeCells]; rfl, by simp [madeCells]; rfl, by simp [madeCells]; rfl⟩
  | 2, h => cases h; exact ⟨by simp [madeCells]; rfl, by simp [madeCells]; rfl, by simp [madeCells]; rfl⟩
  | 3, h => cases h; exact ⟨by simp [madeCells]; rfl, by simp [madeCells]; rfl, by simp [madeCells]; rfl⟩
  | 4, h => cases h; exact ⟨by simp [madeCells]; rfl, by simp [madeCells]; rfl, by simp [madeCells]; rfl⟩
  | 5, h => cases h; exact ⟨by simp [madeCells]; rfl, by simp [madeCells]; rfl, by simp [madeCells]; rfl⟩
  | 6, h => cases h; exact ⟨by simp [madeCells]; rfl, by simp [madeCells]; rfl, by simp [madeCells]; rfl⟩
  | 7, h => cases h; exact ⟨by simp [madeCells]; rfl, by simp [madeCells]; rfl, by simp [madeCells]; rfl⟩
  | 8, h => cases h; exact ⟨by simp [madeCells]; rfl, by simp [madeCells]; rfl, by simp [madeCells]; rfl⟩
  | 9, h => cases h; exact ⟨by simp [madeCells]; rfl, by simp [madeCells]; rfl, by simp [madeCells]; rfl⟩
  | 10, h => cases h; exact ⟨by simp [madeCells]; rfl, by simp [madeCells]; rfl, by simp [madeCells]; rfl⟩
  | 11, h => cases h; exact ⟨by simp [madeCells]; rfl, by simp [madeCells]; rfl, by simp [madeCells]; rfl⟩
  | 12, h => cases h; exact ⟨by simp [madeCells]; rfl, by simp [madeCells]; rfl, by simp [madeCells]; rfl⟩
  | 13, h => cases h; exact ⟨by simp [madeCells]; rfl, by simp [madeCells]; rfl, by simp [madeCells]; rfl⟩
  | 14, h => cases h; exact ⟨by simp [madeCells]; rfl, by simp [madeCells]; rfl, by simp [madeCells]; rfl⟩
  | 15, h => cases h; exact ⟨by simp [madeCells]; rfl, by simp [madeCells]; rfl, by simp [madeCells]; rfl⟩
  | 16, h => cases h; exact ⟨by simp [madeCells]; rfl, by simp [madeCells]; rfl, by simp [madeCells]; rfl⟩
  | j + 17, h => simp at hj; omega
 ·rw [(List.mem_replicate.1 hy).2]
  exact trivial
theorem Held.put {cl : List Value} {ys : List Im} (h : Held cl ys) (k : Nat) (y : Im) (hl : cl.length = 3 * ys.length) : Held (((cl.set (3 * k) (.bool y.l)).set (3 * k + 1) (.string y.t)).set (3 * k + 2) y.sl) (ys.set k y) := by
 intro j x hx
 have hj := (List.getElem?_eq_some_iff.1 hx).1
 rw [List.length_set] at hj
 by_cases e : k = j
 ·subst e
  rw [List.getElem?_set_self hj] at hx
  cases hx
  refine ⟨?_, ?_, ?_⟩
  ·rw [List.getElem?_set_ne (by omega), List.getElem?_set_ne (by omega), List.getElem?_set_self (by omega)]
  ·rw [List.getElem?_set_ne (by omega), List.getElem?_set_self (by simp; omega)]
  ·rw [List.getElem?_set_self (by simp; omega)]
 ·rw [List.getElem?_set_ne e] at hx
  have := h j x hx
  rw [List.getElem?_set_ne (by omega), List.getElem?_set_ne (by omega), List.getElem?_set_ne (by omega), List.getElem?_set_ne (by omega), List.getElem?_set_ne (by omega), List.getElem?_set_ne (by omega), List.getElem?_set_ne (by omega), List.getElem?_set_ne (by omega), List.getElem?_set_ne (by omega)]
  exact this
theorem ItsIn.own {bI : Nat} {p q : Nat → Prop} {A C : World} {l : List It} {row : Option Nat} (h : ItsIn bI p A l) (hg : A.grownBy C row) (hr : row ≠ some bI) (hp : ∀ b, p b → q b ∧ b < A.heap.size ∧ some b ≠ row) : ItsIn bI q C l := by
 obtain ⟨cl, ims, h1, h2, h3, h4, h5⟩ := h
 refine ⟨cl, ims, h1.kept hg (.inr fun e => hr e.symm), h2, h3, h4, fun y hy => inP_of (fun b hb => ⟨(hp b hb).1, fun k => ?_⟩) y (h5 y hy)⟩
 exact World.cell?_of_block (w := A) (a := ⟨b, k, none⟩) (hg.block b (hp b hb).2.1 (hp b hb).2.2)
theorem ItsIn.lt {bI : Nat} {p : Nat → Prop} {W : World} {l : List It} (h : ItsIn bI p W l) : bI < W.heap.size := by
 obtain ⟨cl, ims, h1, _⟩ := h
 exact (h1.lt bI rfl).2
theorem ItsIn.put {bI : Nat} {p : Nat → Prop} {W : World} {l : List It} (h : ItsIn bI p W l) (hp : ∀ b, p b → b ≠ bI) (k : Nat) (im : Im) (hi : inP p W im) :
  ItsIn bI p (((W.setCell ⟨bI, 3 * k, none⟩ (.bool im.l)).setCell ⟨bI, 3 * k + 1, none⟩ (.string im.t)).setCell ⟨bI, 3 * k + 2, none⟩ im.sl) (l.set k (er im)) := by
 obtain ⟨cl, ims, h1, h2, h3, h4, h5⟩ := h
 have keep : ∀ y, inP p W y → inP p (((W.setCell ⟨bI, 3 * k, none⟩ (.bool im.l)).setCell ⟨bI, 3 * k + 1, none⟩ (.string im.t)).setCell ⟨bI, 3 * k + 2, none⟩ im.sl) y := fun y hy =>
  inP_of (fun b hb => ⟨hb, fun j => by
   have := hp b hb
   rw [cell_ne _ _ _ _ _ (by show b ≠ bI; exact this), cell_ne _ _ _ _ _ (by show b ≠ bI; exact this), cell_ne _ _ _ _ _ (by show b ≠ bI; exact this)]⟩) y hy
 refine ⟨_, ims.set k im, ((((h1.stored (3 * k) _).1).stored (3 * k + 1) _).1.stored (3 * k + 2) _).1, h2.put k im (by rw [h1.1, h3]), by rw [List.length_set]; exact h3, ?_, fun y hy => ?_⟩
 ·rw [ers_map, List.map_set, ← ers_map, h4]
 ·rcases List.mem_or_eq_of_mem_set hy with h | rfl
  ·exact keep y (h5 y h)
  ·exact keep y hi
theorem ItsIn.cell {bI : Nat} {p : Nat → Prop} {W : World} {l : List It} (h : ItsIn bI p W l) (q : Nat) (hq : q < 51) : (∃ v, W.cell? ⟨bI, q, none⟩ = some v) ∧ W.frozen? ⟨bI, q, none⟩ = false := by
 obtain ⟨cl, ims, h1, _⟩ := h
 refine ⟨?_, h1.frozenAt q⟩
 rw [h1.cellAt q (by omega)]
 exact ⟨_, List.getElem?_eq_getElem (by rw [h1.1]; omega)⟩
theorem ItsIn.row {bI n : Nat} {p : Nat → Prop} {W : World} {l : List It} (h : ItsIn bI p W l) (hb : bI < n) (hp : ∀ b, p b → b < n) : ∃ ims : List Im, ims.length = 17 ∧ ers ims = l ∧ rowMem n W (some ⟨bI, 0, none⟩) 0 ims := by
 obtain ⟨cl, ims, h1, h2, h3, h4, h5⟩ := h
 refine ⟨ims, h3, h4, ?_⟩
 have key : ∀ (r : List Im) (i : Nat), ims.drop i = r → rowMem n W (some ⟨bI, 0, none⟩) i r := by
  intro r
  induction r with
  | nil => intro i _; trivial
  | cons y r ih =>
   intro i hi
   have hyi : ims[i]? = some y := by
    have := congrArg (·[0]?) hi
    simpa using this
   have hil := (List.getElem?_eq_some_iff.1 hyi).1
   obtain ⟨e0, e1, e2⟩ := h2 i y hyi
   refine ⟨⟨bI, 0, hb, rfl, ?_, ?_, ?_⟩, inMem_of hp y (h5 y (List.mem_of_getElem? hyi)), ih (i + 1) ?_⟩
   ·rw [show 0 + 3 * i = 3 * i by omega, h1.cellAt _ (by omega)]; exact e0
   ·rw [show 0 + 3 * i + 1 = 3 * i + 1 by omega, h1.cellAt _ (by omega)]; exact e1
   ·rw [show 0 + 3 * i + 2 = 3 * i + 2 by omega, h1.cellAt _ (by omega)]; exact e2
   ·rw [← List.drop_drop, hi]
    rfl
 exact key ims 0 rfl

def sC (ks : List (Int × Nd)) (bs : List Nat) : List Value := (List.zip ks bs).flatMap fun x => [.string (oneB x.1.1), .pointer (some ⟨x.2, 0, none⟩)]
theorem sC_snoc (ks : List (Int × Nd)) (bs : List Nat) (k : Int × Nd) (b : Nat) (h : ks.length = bs.length) : sC (ks ++ [k]) (bs ++ [b]) = sC ks bs ++ [.string (oneB k.1), .pointer (some ⟨b, 0, none⟩)] := by
 unfold sC
 rw [List.zip_append h]
 simp
def StsIn (z : Nat) (p : Nat → Prop) (W : World) (sv : Value) (ks : List (Int × Nd)) : Prop := ∃ bs : List Nat, bs.length = ks.length ∧ W.ownsRow z 117 2 sv ks.length (sC ks bs) ∧ ∀ (j : Nat) (k : Int × Nd) (b : Nat), ks[j]? = some k → bs[j]? = some b → ndIn p W b k.2
theorem sC_at : ∀ (ks : List (Int × Nd)) (bs : List Nat) (j : Nat) (k : Int × Nd) (b : Nat), ks[j]? = some k → bs[j]? = some b → (sC ks bs)[2 * j]? = some (.string (oneB k.1)) ∧ (sC ks bs)[2 * j + 1]? = some (.pointer (some ⟨b, 0, none⟩))
 | [], _, _, _, _, h, _ => by cases h
 | _ :: _, [], _, _, _, _, h => by cases h
 | a :: r, c :: s, 0, k, b, h, h' => by
  cases h
  cases h'
  exact ⟨rfl, rfl⟩
 | a :: r, c :: s, j + 1, k, b, h, h' => by
  have := sC_at r s j k b h h'
  have e1 : sC (a :: r) (c :: s) = .string (oneB a.1) :: .pointer (some ⟨c, 0, none⟩) :: sC r s := rfl
  rw [e1, show 2 * (j + 1) = 2 * j + 1 + 1 by omega, List.getElem?_cons_succ, List.getElem?_cons_succ, List.getElem?_cons_succ, List.getElem?_cons_succ]
  exact this
theorem StsIn.own {z : Nat} {p q : Nat → Prop} {A C : World} {sv : Value} {ks : List (Int × Nd)} {row : Option Nat} (h : StsIn z p A sv ks) (hg : A.grownBy C row) (hr : sv.ownBlock = none ∨ sv.ownBlock ≠ row) (hp : ∀ b, p b → q b ∧ b < A.heap.size ∧ some b ≠ row) : StsIn z q C sv ks := by
 obtain ⟨bs, h1, h2, h3⟩ := h
 exact ⟨bs, h1, h2.kept hg hr, fun j k b hk hb => ndIn_of (fun b' hb' => ⟨(hp b' hb').1, hg.block b' (hp b' hb').2.1 (hp b' hb').2.2⟩) _ _ (h3 j k b hk hb)⟩
def stL : List (Int × Nd) → Sts
 | [] => .nil
 | k :: r => .cons (oneB k.1) k.2 (stL r)
theorem stL_snoc : ∀ (ks : List (Int × Nd)) (k : Int × Nd), stL (ks ++ [k]) = (stL ks).snoc (oneB k.1) k.2
 | [], _ => rfl
 | a :: r, k => by
  show Sts.cons _ _ (stL (r ++ [k])) = Sts.cons _ _ ((stL r).snoc _ _)
  rw [stL_snoc r k]
theorem fold_stL : ∀ (r ks : List (Int × Nd)), r.foldl (fun s k => s.snoc (oneB k.1) k.2) (stL ks) = stL (ks ++ r)
 | [], ks => by simp
 | k :: r, ks => by
  rw [List.foldl_cons, ← stL_snoc, fold_stL r (ks ++ [k]), List.append_assoc]
  rfl
theorem fkS_stL (ks : List (Int × Nd)) : fkS ks = stL ks := fold_stL ks []
theorem stL_len : ∀ ks : List (Int × Nd), (stL ks).len = ks.length
 | [] => rfl
 | _ :: r => by
  show (stL r).len + 1 = r.length + 1
  rw [stL_len r]
theorem StsIn.steps {z : Nat} {p : Nat → Prop} {W : World} {sv : Value} {ks : List (Int × Nd)} (h : StsIn z p W sv ks) : ∃ a c, sv = .slice a (fkS ks).len c ∧ stIn (fun b => p b ∨ sv.ownBlock = some b) W a 0 (fkS ks) := by
 rw [fkS_stL, stL_len]
 obtain ⟨bs, h1, h2, h3⟩ := h
 rcases h2.2 with ⟨h, h0⟩ | ⟨g, c, cur, h, hx⟩
 ·have : ks = [] := List.length_eq_zero_iff.1 h0
  subst this
  exact ⟨none, 0, h, trivial⟩
 ·subst h
  refine ⟨_, c, rfl, ?_⟩
  have key : ∀ (r : List (Int × Nd)) (i : Nat), ks.drop i = r → stIn (fun b => p b ∨ some g = some b) W (some ⟨g, 0, none⟩) i (stL r) := by
   intro r
   induction r with
   | nil => intro i _; trivial
   | cons k r ih =>
    intro i hi
    have hki : ks[i]? = some k := by
     have := congrArg (·[0]?) hi
     simpa using this
    have hil := (List.getElem?_eq_some_iff.1 hki).1
    obtain ⟨b, hb⟩ : ∃ b, bs[i]? = some b := ⟨bs[i]'(by omega), List.getElem?_eq_getElem (by omega)⟩
    obtain ⟨e0, e1⟩ := sC_at ks bs i k b hki hb
    refine ⟨⟨g, 0, b, .inr rfl, rfl, ?_, ?_, ndIn_mono (fun _ h => .inl h) _ _ (h3 i k b hki hb)⟩, ih (i + 1) ?_⟩
    ·rw [show 0 + 2 * i = 2 * i by omega, h2.cellAt _ (by omega)]; exact e0
    ·rw [show 0 + 2 * i + 1 = 2 * i + 1 by omega, h2.cellAt _ (by omega)]; exact e1
    ·rw [← List.drop_drop, hi]
     rfl
  exact key ks 0 rfl
end Go.Proofs.YtbmapdkcccdmfaaGreatDoor
