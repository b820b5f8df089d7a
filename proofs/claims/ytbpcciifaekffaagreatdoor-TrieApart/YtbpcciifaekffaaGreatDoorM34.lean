/- Lemmas: Nodes in memory; formOf, newNode, standsWithin. reference, leafOf, bridgeOf. Entries parted by what their paths have at a place: parted. -/
import Derived.Test.YtbpcciifaekffaaGreatDoorM1
import Derived.Test.YtbpcciifaekffaaGreatDoorM10
import Derived.Test.YtbpcciifaekffaaGreatDoorM11
import Derived.Test.YtbpcciifaekffaaGreatDoorM12
import Derived.Test.YtbpcciifaekffaaGreatDoorM13
import Derived.Test.YtbpcciifaekffaaGreatDoorM14
import Derived.Test.YtbpcciifaekffaaGreatDoorM15
import Derived.Test.YtbpcciifaekffaaGreatDoorM16
import Derived.Test.YtbpcciifaekffaaGreatDoorM17
import Derived.Test.YtbpcciifaekffaaGreatDoorM18
import Derived.Test.YtbpcciifaekffaaGreatDoorM19
import Derived.Test.YtbpcciifaekffaaGreatDoorM2
import Derived.Test.YtbpcciifaekffaaGreatDoorM20
import Derived.Test.YtbpcciifaekffaaGreatDoorM21
import Derived.Test.YtbpcciifaekffaaGreatDoorM22
import Derived.Test.YtbpcciifaekffaaGreatDoorM23
import Derived.Test.YtbpcciifaekffaaGreatDoorM24
import Derived.Test.YtbpcciifaekffaaGreatDoorM25
import Derived.Test.YtbpcciifaekffaaGreatDoorM26
import Derived.Test.YtbpcciifaekffaaGreatDoorM27
import Derived.Test.YtbpcciifaekffaaGreatDoorM28
import Derived.Test.YtbpcciifaekffaaGreatDoorM29
import Derived.Test.YtbpcciifaekffaaGreatDoorM3
import Derived.Test.YtbpcciifaekffaaGreatDoorM30
import Derived.Test.YtbpcciifaekffaaGreatDoorM31
import Derived.Test.YtbpcciifaekffaaGreatDoorM32
import Derived.Test.YtbpcciifaekffaaGreatDoorM33
import Derived.Test.YtbpcciifaekffaaGreatDoorM4
import Derived.Test.YtbpcciifaekffaaGreatDoorM6
import Derived.Test.YtbpcciifaekffaaGreatDoorM7
import Derived.Test.YtbpcciifaekffaaGreatDoorM8
import Derived.Test.YtbpcciifaekffaaGreatDoorM9
import Derived.Test.YtbpcciifaekffaaGreatDoorRows
namespace Go.Proofs.YtbpcciifaekffaaGreatDoor
open Go.RowKit Go.Shelf Go.Sort

mutual
/-- A node: its list, and the steps to those below it. -/
inductive Nd where
  | mk (x : It) (ss : Sts)
inductive Sts where
  | nil
  | cons (p : ByteArray) (n : Nd) (r : Sts)
end
namespace Nd
def x : Nd → It | .mk x _ => x
def ss : Nd → Sts | .mk _ ss => ss
end Nd
def Sts.len : Sts → Nat
  | .nil => 0
  | .cons _ _ r => r.len + 1
/-- What stands for a list in another one. -/
def refI (x : It) : It := if (eS x).size < 32 then x else .mk false (sumOf (eS x)) []
mutual
/-- It lies in memory, in blocks of a kind, from block b on. -/
def ndIn (p : Nat → Prop) (W : World) (b : Nat) : Nd → Prop
  | .mk x ss => ∃ (im : Im) (a : Option Addr) (c : Nat), p b ∧ W.heap[b]? = some (.cells #[.bool im.l, .string im.t, im.sl, .string (eS x), .slice a ss.len c] 50 (0, 0)) ∧ er im = x ∧ inP p W im ∧ stIn (fun q => p q ∧ q < b) W a 0 ss
def stIn (p : Nat → Prop) (W : World) (a : Option Addr) : Nat → Sts → Prop
  | _, .nil => True
  | i, .cons t n r => (∃ b o b', p b ∧ a = some ⟨b, o, none⟩ ∧ W.cell? ⟨b, o + 2 * i, none⟩ = some (.string t) ∧ W.cell? ⟨b, o + 2 * i + 1, none⟩ = some (.pointer (some ⟨b', 0, none⟩)) ∧ ndIn p W b' n) ∧ stIn p W a (i + 1) r
end
mutual
theorem ndIn_of {p q : Nat → Prop} {W W' : World} (hp : ∀ b, p b → q b ∧ W'.heap[b]? = W.heap[b]?) : ∀ (n : Nd) (b : Nat), ndIn p W b n → ndIn q W' b n
  | .mk _ ss, b, ⟨im, a, c, h1, h2, h3, h4, h5⟩ => ⟨im, a, c, (hp b h1).1, (hp b h1).2.trans h2, h3, inP_of (fun b hb => ⟨(hp b hb).1, fun k => World.cell?_of_block (w := W) (a := ⟨b, k, none⟩) (hp b hb).2⟩) im h4, stIn_of (fun q hq => ⟨⟨(hp q hq.1).1, hq.2⟩, (hp q hq.1).2⟩) ss a 0 h5⟩
theorem stIn_of {p q : Nat → Prop} {W W' : World} (hp : ∀ b, p b → q b ∧ W'.heap[b]? = W.heap[b]?) : ∀ (s : Sts) (a : Option Addr) (i : Nat), stIn p W a i s → stIn q W' a i s
  | .nil, _, _, _ => trivial
  | .cons _ n r, a, i, ⟨⟨b, o, b', h1, h2, h3, h4, h5⟩, h6⟩ => ⟨⟨b, o, b', (hp b h1).1, h2, (World.cell?_of_block (w := W) (a := ⟨b, _, none⟩) (hp b h1).2).trans h3, (World.cell?_of_block (w := W) (a := ⟨b, _, none⟩) (hp b h1).2).trans h4, ndIn_of hp n b' h5⟩, stIn_of hp r a (i + 1) h6⟩
end
theorem ndIn_below {p : Nat → Prop} {n : Nat} {W W' : World} (hb : Below n W W') (hp : ∀ b, p b → b < n) (nd : Nd) (b : Nat) (h : ndIn p W b nd) : ndIn p W' b nd := ndIn_of (fun b hb' => ⟨hb', hb.block b (hp b hb')⟩) nd b h
theorem ndIn_mono {p q : Nat → Prop} {W : World} (hp : ∀ b, p b → q b) (nd : Nd) (b : Nat) (h : ndIn p W b nd) : ndIn q W b nd := ndIn_of (fun b hb => ⟨hp b hb, rfl⟩) nd b h

theorem zero_new (w : World) : ItIn w.heap.size zeroI (w.alloc (.cells #[.bool false, .string ⟨#[]⟩, .slice none 0 0] 47)) := World.alloc_heap_new w _

set_option maxRecDepth 20000 in
set_option maxHeartbeats 1000000 in
theorem formOf_any (p : ByteArray) (leaf : Bool) (hp : p.size ≤ 1000) (w : World) :
    Calls Tryz.prog 89 #[.string p, .bool leaf] w fun e w' => e = .returned (txt (fmS p leaf)).val ∧ Below w.heap.size w w' := by
  have KF := fun w => form_any p leaf (by omega) w
  have KT := text_any (fmS p leaf)
  have A0 := be_new w (.cells #[.bool false, .string ⟨#[]⟩, .slice none 0 0] 47)
  have hR0 := zero_new w
  obtain ⟨s, hs⟩ : ∃ s, fmS p leaf = s := ⟨_, rfl⟩
  rw [hs] at KF KT ⊢
  clear hs
  go_enter Tryz.func89, Tryz.ntmps89
  go_wp2_with fail
  refine (KF _).mono ?_
  rintro e w1 ⟨rfl, B1⟩
  go_wp2_with fail
  refine (KT _).mono ?_
  rintro e w2 ⟨rfl, B2⟩
  have B12 := belowStep B1 B1.size B2
  have hR : ItIn w.heap.size zeroI w2 := (B12.block _ (by simp)).trans hR0
  have BW := belowStep A0 A0.size B12
  clear KF KT A0 hR0 B1 B2 B12
  obtain ⟨bR, hbR⟩ : ∃ c, w.heap.size = c := ⟨_, rfl⟩
  have HZ : Hid (w.heap.size = bR) := hbR
  rw [hbR] at hR BW ⊢
  clear hbR
  have d0 : w2.cell? ⟨bR, 0, none⟩ = some (.bool false) := by rw [Lib.cell_of_heap hR]; rfl
  have d1 : w2.cell? ⟨bR, 1, none⟩ = some (.string ⟨#[]⟩) := by rw [Lib.cell_of_heap hR]; rfl
  have d2 : w2.cell? ⟨bR, 2, none⟩ = some (.slice none 0 0) := by rw [Lib.cell_of_heap hR]; rfl
  have f0 := Lib.frozen_of_heap hR 0
  have f1 := Lib.frozen_of_heap hR 1
  have f2 := Lib.frozen_of_heap hR 2
  dsimp only [txt, Im.val, Im.l, Im.t, Im.sl, Im.a, Im.xs, Im.c, List.length_nil]
  go_wp2
  refine bodyPost_ret (v := .agg #[.bool false, .string s, .slice none 0 0]) (by simp [results, Tryz.results89, go_sem, d0, d1, d2]) rfl ⟨rfl, ?_⟩
  rw [HZ.out]
  exact below_set (below_set (below_set BW bR 0 (Nat.le_refl _) _) bR 1 (Nat.le_refl _) _) bR 2 (Nat.le_refl _) _

set_option maxRecDepth 20000 in
set_option maxHeartbeats 1000000 in
theorem newNode_any (xs : List Im) (ss : Sts) (htb : tbs xs < 3000000) (a sa : Option Addr) (c sc n : Nat) (p : Nat → Prop) (w : World) (hn : n ≤ w.heap.size) (hm : rowMem n w a 0 xs) (hp : ∀ b, p b → b < w.heap.size) (hs : stIn p w sa 0 ss) :
    Calls Tryz.prog 88 #[.slice a xs.length c, .slice sa ss.len sc] w fun e w' => Below w.heap.size w w' ∧ ∃ b, e = .returned (.pointer (some ⟨b, 0, none⟩)) ∧ ndIn (fun b => p b ∨ (w.heap.size ≤ b ∧ b < w'.heap.size)) w' b (.mk (.mk true ⟨#[]⟩ (ers xs)) ss) := by
  have hcn : cnts xs < 100000000 := by
    have h1 := tb_cnt (.mk true ⟨#[]⟩ none 0 xs)
    have h2 : tb (.mk true ⟨#[]⟩ none 0 xs) = 0 + 9 + tbs xs := rfl
    have h3 : cnt (.mk true ⟨#[]⟩ none 0 xs) = cnts xs + 1 := rfl
    omega
  have KL := fun w hn hm => list_any xs hcn n a c w hn hm
  have htb' : tbIs (ers xs) < 3000000 := by rw [← tbs_er]; exact htb
  obtain ⟨X, hX⟩ : ∃ q, ers xs = q := ⟨_, rfl⟩
  obtain ⟨N, hN⟩ : ∃ q, xs.length = q := ⟨_, rfl⟩
  obtain ⟨M, hM⟩ : ∃ q, ss.len = q := ⟨_, rfl⟩
  rw [hX] at KL htb' ⊢
  rw [hN] at KL ⊢
  rw [hM]
  have HX : Hid (_ ∧ _ ∧ _) := ⟨hm, hs, hM⟩
  clear hm hs hX hN hM htb
  go_enter Tryz.func88, Tryz.ntmps88
  go_wp2_with fail
  refine (KL _ hn HX.out.1).mono ?_
  rintro e w1 ⟨im, rfl, he1, hin1, B1⟩
  have hml : inMem w1.heap.size w1 im := inMem_of (fun b hb => hb.2) _ hin1
  have KE := fun n w hn hm => encode_any im (by rw [tb_er, he1]; show 0 + 9 + tbIs X < _; omega) n w hn hm
  rw [encE_er, encS_er, he1] at KE
  have hb1 := it_new w1 im
  have A1 := be_new w1 (.cells #[.bool im.l, .string im.t, im.sl] 47)
  obtain ⟨s, hs⟩ : ∃ q, eS (.mk true ⟨#[]⟩ X) = q := ⟨_, rfl⟩
  obtain ⟨g, hg⟩ : ∃ q, eE (.mk true ⟨#[]⟩ X) = q := ⟨_, rfl⟩
  rw [hs, hg] at KE
  have HI : Hid (_ ∧ _ ∧ _ ∧ _) := ⟨he1, hin1, hs, B1⟩
  clear he1 hin1 hs hg KL
  obtain ⟨il, it, ia, ic, ix⟩ := im
  dsimp only [Im.val, Im.l, Im.t, Im.sl, Im.a, Im.xs, Im.c] at KE hb1 A1 ⊢
  go_wp2_with fail
  refine (KE _ _ A1.size (inMem_below (Nat.le_refl _) A1 _ hml)).mono ?_
  rintro e w2 ⟨rfl, B2⟩
  have B12 := belowStep A1 A1.size B2
  have hb2 : ItIn w1.heap.size (.mk il it ia ic ix) w2 := (B2.block _ hb1.lt).trans hb1
  have c0 : w2.cell? ⟨w1.heap.size, 0, none⟩ = some (.bool il) := by rw [Lib.cell_of_heap hb2]; rfl
  have c1 : w2.cell? ⟨w1.heap.size, 1, none⟩ = some (.string it) := by rw [Lib.cell_of_heap hb2]; rfl
  have c2 : w2.cell? ⟨w1.heap.size, 2, none⟩ = some (.slice ia ix.length ic) := by rw [Lib.cell_of_heap hb2]; rfl
  have A2 := be_new w2 (.cells #[.bool il, .string it, .slice ia ix.length ic, .string s, .slice sa M sc] 50)
  have hN2 : (w2.alloc (.cells #[.bool il, .string it, .slice ia ix.length ic, .string s, .slice sa M sc] 50)).heap[w2.heap.size]? = some (.cells #[.bool il, .string it, .slice ia ix.length ic, .string s, .slice sa M sc] 50 (0, 0)) := World.alloc_heap_new w2 _
  have HJ : Hid (_ ∧ _ ∧ _) := ⟨B12, A2, hN2⟩
  clear B12 A2 hN2 hb1 A1 KE hml B2 B1 hb2
  go_wp2
  go_ret
  obtain ⟨he1, hin1, hs, B1⟩ := HI.out
  obtain ⟨B12, A2, hN2⟩ := HJ.out
  have BW1 := belowStep B12 B12.size A2
  have BW := belowStep B1 B1.size BW1
  have hsz1 := B1.size
  have hsz2 := B12.size
  refine ⟨BW, w2.heap.size, rfl, .mk il it ia ic ix, sa, sc, .inr ⟨by omega, by simp⟩, ?_, he1, ?_, ?_⟩
  · rw [hs, HX.out.2.2]
    exact hN2
  · refine inP_of (fun b hb => ⟨.inr ⟨hb.1, by simp; omega⟩, fun k => BW1.cell (p := ⟨b, k, none⟩) hb.2⟩) _ hin1
  · exact stIn_of (fun b hb => ⟨⟨.inl hb, by have := hp b hb; omega⟩, BW.block b (hp b hb)⟩) ss sa 0 HX.out.2.1

set_option maxRecDepth 20000 in
set_option maxHeartbeats 1000000 in
theorem stands_any (nd : Nd) (b : Nat) (p : Nat → Prop) (w : World) (h : ndIn p w b nd) :
    Calls Tryz.prog 57 #[.pointer (some ⟨b, 0, none⟩)] w fun e w' => e = .returned (.bool (decide ((eS nd.x).size < 32))) ∧ Below w.heap.size w w' := by
  obtain ⟨x, ss⟩ := nd
  obtain ⟨im, a, c, h1, h2, h3, h4, h5⟩ := h
  have c3 : w.cell? ⟨b, 3, none⟩ = some (.string (eS x)) := by rw [Lib.cell_of_heap h2]; rfl
  show Calls Tryz.prog 57 #[.pointer (some ⟨b, 0, none⟩)] w fun e w' => e = .returned (.bool (decide ((eS x).size < 32))) ∧ Below w.heap.size w w'
  obtain ⟨s, hs⟩ : ∃ s, eS x = s := ⟨_, rfl⟩
  rw [hs] at c3 ⊢
  clear h1 h2 h3 h4 h5 hs
  have hd : decide ((s.size : Int) < 32) = decide (s.size < 32) := by congr 1; apply propext; omega
  go_enter Tryz.func57, Tryz.ntmps57
  go_wp2
  go_ret
  exact ⟨by rw [← hd]; rfl, Below.refl _ _⟩

end Go.Proofs.YtbpcciifaekffaaGreatDoor
namespace Go.Proofs.YtbpcciifaekffaaGreatDoor
open Go.RowKit Go.Shelf Go.Sort

theorem sum_one (t : ByteArray) (ht : t.size ≤ 140737488355328) (w : World) (hl : Laid w) :
    Calls Tryz.prog 26 #[.slice (some ⟨w.heap.size, 0, none⟩) 1 1] (w.alloc (.cells #[.string t] 9)) fun e w' => e = .returned (.string (sumOf t)) ∧ Below w.heap.size w w' := by
  have B0 := be_new w (.cells #[.string t] 9)
  have h := sum_list w.heap.size 0 1 [t] (w.alloc (.cells #[.string t] 9)) (hl.below B0) (fun j x hx => by
    match j, hx with
    | 0, hx => cases hx; simp) (by simp) (by simp) (by simp) (by simpa [Lib.join] using ht)
  rw [join_one] at h
  exact h.mono fun e w' ⟨he, hb⟩ => ⟨he, belowStep B0 B0.size hb⟩

set_option maxRecDepth 20000 in
set_option maxHeartbeats 1000000 in
theorem reference_any (nd : Nd) (b : Nat) (p : Nat → Prop) (w : World) (hl : Laid w) (hz : (eS nd.x).size ≤ 140737488355328) (hp : ∀ b, p b → b < w.heap.size) (h : ndIn p w b nd) :
    Calls Tryz.prog 91 #[.pointer (some ⟨b, 0, none⟩)] w fun e w' => ∃ im : Im, e = .returned im.val ∧ er im = refI nd.x ∧ inP p w' im ∧ Below w.heap.size w w' := by
  have KS := fun w h => stands_any nd b p w h
  obtain ⟨q, hq⟩ : ∃ q, decide ((eS nd.x).size < 32) = q := ⟨_, rfl⟩
  rw [hq] at KS
  obtain ⟨x, ss⟩ := nd
  have hh := h
  obtain ⟨im, a, c, h1, h2, h3, h4, h5⟩ := h
  have hbl := hp b h1
  have A0 := be_new w (.cells #[.bool false, .string ⟨#[]⟩, .slice none 0 0] 47)
  have hR0 := zero_new w
  have hh0 := ndIn_below A0 hp _ _ hh
  dsimp only [Nd.x] at hz KS ⊢
  go_enter Tryz.func91, Tryz.ntmps91
  go_wp2_with fail
  refine (KS _ hh0).mono ?_
  rintro e w1 ⟨rfl, B1⟩
  have BW := belowStep A0 A0.size B1
  have hR : ItIn w.heap.size zeroI w1 := (B1.block _ (by simp)).trans hR0
  have g2 := (BW.block b hbl).trans h2
  have hin := inP_of (fun b hb => ⟨hb, fun k => BW.cell (p := ⟨b, k, none⟩) (hp b hb)⟩) im h4
  have hl1 := hl.below BW
  clear A0 hR0 B1 hh0 KS h4 h5 hh h2
  obtain ⟨bR, hbR⟩ : ∃ c, w.heap.size = c := ⟨_, rfl⟩
  have HZ : Hid (w.heap.size = bR) := hbR
  rw [hbR] at hR BW hbl ⊢
  clear hbR
  have d0 : w1.cell? ⟨bR, 0, none⟩ = some (.bool false) := by rw [Lib.cell_of_heap hR]; rfl
  have d1 : w1.cell? ⟨bR, 1, none⟩ = some (.string ⟨#[]⟩) := by rw [Lib.cell_of_heap hR]; rfl
  have d2 : w1.cell? ⟨bR, 2, none⟩ = some (.slice none 0 0) := by rw [Lib.cell_of_heap hR]; rfl
  have f0 := Lib.frozen_of_heap hR 0
  have f1 := Lib.frozen_of_heap hR 1
  have f2 := Lib.frozen_of_heap hR 2
  cases q with
  | true =>
    have hq' : (eS x).size < 32 := of_decide_eq_true hq
    have c0 : w1.cell? ⟨b, 0, none⟩ = some (.bool im.l) := by rw [Lib.cell_of_heap g2]; rfl
    have c1 : w1.cell? ⟨b, 1, none⟩ = some (.string im.t) := by rw [Lib.cell_of_heap g2]; rfl
    have c2 : w1.cell? ⟨b, 2, none⟩ = some im.sl := by rw [Lib.cell_of_heap g2]; rfl
    obtain ⟨il, it, ia, ic, ix⟩ := im
    dsimp only [Im.val, Im.l, Im.t, Im.sl, Im.a, Im.xs, Im.c] at c0 c1 c2 ⊢
    go_wp2
    have BS : Below bR w1 (((w1.setCell ⟨bR, 0, none⟩ (.bool il)).setCell ⟨bR, 1, none⟩ (.string it)).setCell ⟨bR, 2, none⟩ (.slice ia ix.length ic)) := below_set (below_set (below_set (Below.refl bR w1) bR 0 (Nat.le_refl _) _) bR 1 (Nat.le_refl _) _) bR 2 (Nat.le_refl _) _
    refine bodyPost_ret (v := .agg #[.bool il, .string it, .slice ia ix.length ic]) (by simp [results, Tryz.results91, go_sem, d0, d1, d2]) rfl ⟨.mk il it ia ic ix, rfl, h3.trans (by simp [refI, hq']), ?_, ?_⟩
    · exact inP_of (fun b hb => ⟨hb, fun k => BS.cell (p := ⟨b, k, none⟩) (by have := hp b hb; have := HZ.out; show b < bR; omega)⟩) _ hin
    · rw [HZ.out]
      exact below_set (below_set (below_set BW bR 0 (Nat.le_refl _) _) bR 1 (Nat.le_refl _) _) bR 2 (Nat.le_refl _) _
  | false =>
    have hq' : ¬ (eS x).size < 32 := of_decide_eq_false hq
    have c3 : w1.cell? ⟨b, 3, none⟩ = some (.string (eS x)) := by rw [Lib.cell_of_heap g2]; rfl
    have KH := sum_one (eS x) hz w1 hl1
    obtain ⟨s, hs⟩ : ∃ s, eS x = s := ⟨_, rfl⟩
    have HS : Hid (_ ∧ _) := ⟨hs, hq'⟩
    rw [hs] at c3 KH
    clear hs hq hq' hz g2
    go_wp2_with fail
    refine KH.mono ?_
    rintro e w2 ⟨rfl, B2⟩
    go_wp2_with fail
    refine (text_any (sumOf s) _).mono ?_
    rintro e w3 ⟨rfl, B3⟩
    have B23 := belowStep B2 B2.size B3
    have hs1 := BW.size
    have hs2 := hR.lt
    have hR3 : ItIn bR zeroI w3 := (B23.block _ hs2).trans hR
    have BW3 : Below bR w w3 := belowStep BW (by omega) B23
    clear d0 d1 d2 f0 f1 f2 KH c3 B2 B3 hR
    have d0 : w3.cell? ⟨bR, 0, none⟩ = some (.bool false) := by rw [Lib.cell_of_heap hR3]; rfl
    have d1 : w3.cell? ⟨bR, 1, none⟩ = some (.string ⟨#[]⟩) := by rw [Lib.cell_of_heap hR3]; rfl
    have d2 : w3.cell? ⟨bR, 2, none⟩ = some (.slice none 0 0) := by rw [Lib.cell_of_heap hR3]; rfl
    have f0 := Lib.frozen_of_heap hR3 0
    have f1 := Lib.frozen_of_heap hR3 1
    have f2 := Lib.frozen_of_heap hR3 2
    dsimp only [txt, Im.val, Im.l, Im.t, Im.sl, Im.a, Im.xs, Im.c, List.length_nil]
    go_wp2
    refine bodyPost_ret (v := .agg #[.bool false, .string (sumOf s), .slice none 0 0]) (by simp [results, Tryz.results91, go_sem, d0, d1, d2]) rfl ⟨txt (sumOf s), rfl, ?_, ?_, ?_⟩
    · obtain ⟨h6, h7⟩ := HS.out
      subst h6
      simp [refI, h7, txt, er, ers]
    · simp [txt, inP, rowP]
    · rw [HZ.out]
      exact below_set (below_set (below_set BW3 bR 0 (Nat.le_refl _) _) bR 1 (Nat.le_refl _) _) bR 2 (Nat.le_refl _) _

/-- Two items, laid side by side in a new block. -/
theorem two_row (w : World) (x y : Im) (hx : inMem w.heap.size w x) (hy : inMem w.heap.size w y) :
    rowMem (w.heap.size + 1) (w.alloc (.cells #[.bool x.l, .string x.t, x.sl, .bool y.l, .string y.t, y.sl] 47)) (some ⟨w.heap.size, 0, none⟩) 0 [x, y] := by
  have B := be_new w (.cells #[.bool x.l, .string x.t, x.sl, .bool y.l, .string y.t, y.sl] 47)
  have hx' := inMem_mono (Nat.le_succ _) _ (inMem_below (Nat.le_refl _) B _ hx)
  have hy' := inMem_mono (Nat.le_succ _) _ (inMem_below (Nat.le_refl _) B _ hy)
  exact ⟨⟨_, 0, by omega, rfl, by simp, by simp, by simp⟩, hx', ⟨_, 0, by omega, rfl, by simp, by simp, by simp⟩, hy', trivial⟩
theorem fm_size (p : ByteArray) (leaf : Bool) : (fmS p leaf).size ≤ p.size + 2 := by
  unfold fmS
  split
  · unfold fmOf
    rw [n_by8_size, full_size, hd_size]
    omega
  · exact Nat.zero_le _

set_option maxRecDepth 20000 in
set_option maxHeartbeats 1000000 in
theorem leafOf_any (p v : ByteArray) (hp : p.size ≤ 1000) (hv : v.size ≤ 1000) (w : World) :
    Calls Tryz.prog 65 #[.string p, .string v] w fun e w' => Below w.heap.size w w' ∧ ∃ b, e = .returned (.pointer (some ⟨b, 0, none⟩)) ∧ ndIn (fun b => w.heap.size ≤ b ∧ b < w'.heap.size) w' b (.mk (.mk true ⟨#[]⟩ [.mk false (fmS p true) [], .mk false v []]) .nil) := by
  have KF := fun w => formOf_any p true hp w
  have KT := text_any v
  go_enter Tryz.func65, Tryz.ntmps65
  go_wp2_with fail
  refine (KF _).mono ?_
  rintro e w1 ⟨rfl, B1⟩
  go_wp2_with fail
  refine (KT _).mono ?_
  rintro e w2 ⟨rfl, B2⟩
  have B12 := belowStep B1 B1.size B2
  obtain ⟨s, hs⟩ : ∃ s, fmS p true = s := ⟨_, rfl⟩
  rw [hs]
  dsimp only [txt, Im.val, Im.l, Im.t, Im.sl, Im.a, Im.xs, Im.c, List.length_nil]
  go_wp2_with fail
  have htx : inMem w2.heap.size w2 (txt s) := by simp [txt, inMem, rowMem]
  have hty : inMem w2.heap.size w2 (txt v) := by simp [txt, inMem, rowMem]
  have hrow := two_row w2 (txt s) (txt v) htx hty
  have A2 := be_new w2 (.cells #[.bool false, .string s, .slice none 0 0, .bool false, .string v, .slice none 0 0] 47)
  have hfs := fm_size p true
  rw [hs] at hfs
  have KN := newNode_any [txt s, txt v] .nil (by simp [tbs, tb, txt]; omega) (some ⟨w2.heap.size, 0, none⟩) none 2 0 (w2.heap.size + 1) (fun _ => False) (w2.alloc (.cells #[.bool false, .string s, .slice none 0 0, .bool false, .string v, .slice none 0 0] 47)) (by simp) hrow (fun _ h => h.elim) trivial
  refine KN.mono ?_
  rintro e w3 ⟨B3, b, rfl, hnd⟩
  have B23 := belowStep A2 A2.size B3
  have BW := belowStep B12 B12.size B23
  have hz := B12.size
  have HF : Hid (_ ∧ _) := ⟨BW, hnd⟩
  clear KN A2 hrow htx hty KF KT B3 B23 hnd BW
  go_wp2
  go_ret
  obtain ⟨BW, hnd⟩ := HF.out
  refine ⟨BW, b, rfl, ?_⟩
  subst hs
  exact ndIn_mono (fun b hb => hb.elim (fun h => h.elim) fun h => ⟨by have := h.1; simp at this; omega, h.2⟩) _ b hnd

/-- A bridge. -/
def brN (p : ByteArray) (nd : Nd) : Nd := .mk (.mk true ⟨#[]⟩ [.mk false (fmS p false) [], refI nd.x]) (.cons p nd .nil)
set_option maxRecDepth 20000 in
set_option maxHeartbeats 1000000 in
theorem bridgeOf_any (q : ByteArray) (nd : Nd) (hq : q.size ≤ 1000) (ht : tbI (refI nd.x) ≤ 1000000) (b : Nat) (p : Nat → Prop) (w : World) (hl : Laid w) (hz : (eS nd.x).size ≤ 140737488355328) (hp : ∀ b, p b → b < w.heap.size) (h : ndIn p w b nd) :
    Calls Tryz.prog 67 #[.string q, .pointer (some ⟨b, 0, none⟩)] w fun e w' => Below w.heap.size w w' ∧ ∃ b, e = .returned (.pointer (some ⟨b, 0, none⟩)) ∧ ndIn (fun b => p b ∨ w.heap.size ≤ b ∧ b < w'.heap.size) w' b (brN q nd) := by
  have KF := fun w => formOf_any q false hq w
  have KR := fun w hl hp h => reference_any nd b p w hl hz hp h
  obtain ⟨s, hs⟩ : ∃ s, fmS q false = s := ⟨_, rfl⟩
  rw [hs] at KF
  have HS : Hid (fmS q false = s) := hs
  clear hs
  go_enter Tryz.func67, Tryz.ntmps67
  go_wp2_with fail
  refine (KF _).mono ?_
  rintro e w1 ⟨rfl, B1⟩
  have hp1 : ∀ b, p b → b < w1.heap.size := fun b hb => Nat.lt_of_lt_of_le (hp b hb) B1.size
  have h1 := ndIn_below B1 hp _ _ h
  dsimp only [txt, Im.val, Im.l, Im.t, Im.sl, Im.a, Im.xs, Im.c, List.length_nil]
  go_wp2_with fail
  refine (KR _ (hl.below B1) hp1 h1).mono ?_
  rintro e w2 ⟨⟨il, it, ia, ic, ix⟩, rfl, he, hin, B2⟩
  have h2 := ndIn_below B2 hp1 _ _ h1
  have B12 := belowStep B1 B1.size B2
  clear B1 B2 KF KR h1 h
  dsimp only [txt, Im.val, Im.l, Im.t, Im.sl, Im.a, Im.xs, Im.c, List.length_nil]
  go_wp2_with fail
  have htx : inMem w2.heap.size w2 (txt s) := by simp [txt, inMem, rowMem]
  have hp2 : ∀ b, p b → b < w2.heap.size := fun b hb => Nat.lt_of_lt_of_le (hp b hb) B12.size
  have hty : inMem w2.heap.size w2 (.mk il it ia ic ix) := inMem_of hp2 _ hin
  have hrow := two_row w2 (txt s) (.mk il it ia ic ix) htx hty
  have A2 := be_new w2 (.cells #[.bool false, .string s, .slice none 0 0, .bool il, .string it, .slice ia ix.length ic] 47)
  dsimp only [txt, Im.val, Im.l, Im.t, Im.sl, Im.a, Im.xs, Im.c, List.length_nil] at hrow
  have hX : (w2.alloc (.cells #[.bool false, .string s, .slice none 0 0, .bool il, .string it, .slice ia ix.length ic] 47)).heap.size = w2.heap.size + 1 := by simp
  obtain ⟨X, hXe⟩ : ∃ X, w2.alloc (.cells #[.bool false, .string s, .slice none 0 0, .bool il, .string it, .slice ia ix.length ic] 47) = X := ⟨_, rfl⟩
  rw [hXe] at hrow A2 hX ⊢
  clear hXe
  have A3 := be_new X (.cells #[.string q, .pointer (some ⟨b, 0, none⟩)] 97)
  have hcs : (X.alloc (.cells #[.string q, .pointer (some ⟨b, 0, none⟩)] 97)).heap[w2.heap.size + 1]? = some (.cells #[.string q, .pointer (some ⟨b, 0, none⟩)] 97 (0, 0)) := by rw [← hX]; exact World.alloc_heap_new X _
  have hY : (X.alloc (.cells #[.string q, .pointer (some ⟨b, 0, none⟩)] 97)).heap.size = w2.heap.size + 2 := by simp [hX]
  obtain ⟨Y, hYe⟩ : ∃ Y, X.alloc (.cells #[.string q, .pointer (some ⟨b, 0, none⟩)] 97) = Y := ⟨_, rfl⟩
  rw [hYe] at A3 hcs hY ⊢
  clear hYe
  have hrow3 := rowMem_below (by rw [hX]; exact Nat.le_refl _) (by rw [← hX]; exact A3) _ _ _ hrow
  have A23 := belowStep A2 A2.size A3
  have h3 := ndIn_below A23 hp2 _ _ h2
  have hst : stIn (fun b => p b ∨ b = w2.heap.size + 1) Y (some ⟨w2.heap.size + 1, 0, none⟩) 0 (.cons q nd .nil) :=
    ⟨⟨w2.heap.size + 1, 0, b, .inr rfl, rfl, by rw [Lib.cell_of_heap hcs]; rfl, by rw [Lib.cell_of_heap hcs]; rfl, ndIn_mono (fun _ h => .inl h) _ _ h3⟩, trivial⟩
  have hfs := fm_size q false
  rw [HS.out] at hfs
  rw [← he, ← tb_er] at ht
  have KN := newNode_any [txt s, .mk il it ia ic ix] (.cons q nd .nil) (by simp only [tbs]; rw [show tb (txt s) = s.size + 9 + 0 from rfl]; omega) (some ⟨w2.heap.size, 0, none⟩) (some ⟨w2.heap.size + 1, 0, none⟩) 2 1 (w2.heap.size + 1) (fun b => p b ∨ b = w2.heap.size + 1) Y (by omega) hrow3 (fun b hb => hb.elim (fun hb => by have := hp2 b hb; omega) fun hb => by omega) hst
  refine KN.mono ?_
  rintro e w3 ⟨B3, b', rfl, hnd⟩
  have B23 := belowStep A23 A23.size B3
  have BW := belowStep B12 B12.size B23
  have hz := B12.size
  have hz3 := B3.size
  have HF : Hid (_ ∧ _) := ⟨BW, hnd⟩
  clear KN A2 hrow htx hty B3 B23 hnd BW
  go_wp2
  go_ret
  obtain ⟨BW, hnd⟩ := HF.out
  refine ⟨BW, b', rfl, ?_⟩
  unfold brN
  rw [HS.out, ← he]
  exact ndIn_mono (fun b hb => hb.elim (fun hb => hb.elim (fun hb => .inl hb) fun hb => .inr ⟨by omega, by omega⟩) fun hb => .inr ⟨by have := hb.1; omega, hb.2⟩) _ b' hnd
end Go.Proofs.YtbpcciifaekffaaGreatDoor
namespace Go.Proofs.YtbpcciifaekffaaGreatDoor
open Go.RowKit Go.Shelf Go.Sort
attribute [local go_sem] Oper.semAt_some

/-- What an entry's path has at a place. -/
def hfA (d : Nat) (es : List Pr) (k : Nat) : Int := bt (es.getD k (⟨#[]⟩, ⟨#[]⟩)).1 d
/-- How many of the first ones have it. -/
def rn (d : Nat) (h : Int) : List Pr → Nat
  | [] => 0
  | e :: r => if bt e.1 d = h then rn d h r + 1 else 0
theorem rn_le (d : Nat) (h : Int) : ∀ es : List Pr, rn d h es ≤ es.length
  | [] => Nat.le_refl _
  | e :: r => by
    have := rn_le d h r
    simp only [rn, List.length_cons]
    split <;> omega
theorem drop_at {es : List Pr} {k : Nat} {e : Pr} (h : es[k]? = some e) : es.drop k = e :: es.drop (k + 1) := by
  obtain ⟨h1, h2⟩ := List.getElem?_eq_some_iff.1 h
  rw [List.drop_eq_getElem_cons h1, h2]
theorem hfA_at {d : Nat} {es : List Pr} {k : Nat} {e : Pr} (h : es[k]? = some e) : hfA d es k = bt e.1 d := by
  unfold hfA
  rw [List.getD_eq_getElem?_getD, h]
  rfl
theorem rn_pos {d : Nat} {es : List Pr} {k : Nat} (h : k < es.length) : 1 ≤ rn d (hfA d es k) (es.drop k) := by
  have he : es[k]? = some es[k] := List.getElem?_eq_getElem h
  rw [drop_at he, hfA_at he]
  show 1 ≤ (if _ then _ else _)
  rw [if_pos rfl]
  omega
/-- The parts: where each begins, and how many it has. -/
def pgF (d : Nat) (es : List Pr) : Nat → Nat → List (Nat × Nat)
  | 0, _ => []
  | f + 1, k => if k < es.length then (k, rn d (hfA d es k) (es.drop k)) :: pgF d es f (k + rn d (hfA d es k) (es.drop k)) else []
theorem pgF_pg (d : Nat) (es : List Pr) : ∀ (f g k : Nat), es.length ≤ f + k → es.length ≤ g + k → pgF d es f k = pgF d es g k
  | 0, 0, _, _, _ => rfl
  | 0, g + 1, k, h, _ => by
    show [] = if _ then _ else _
    rw [if_neg (by omega)]
  | f + 1, 0, k, _, h => by
    show (if _ then _ else _) = []
    rw [if_neg (by omega)]
  | f + 1, g + 1, k, h, h' => by
    show (if _ then _ else _) = (if _ then _ else _)
    split
    · rename_i hk
      have := rn_pos (d := d) hk
      rw [pgF_pg d es f g _ (by omega) (by omega)]
    · rfl
def pg (d : Nat) (es : List Pr) (k : Nat) : List (Nat × Nat) := pgF d es (es.length - k) k
theorem pg_eq (d : Nat) (es : List Pr) (k : Nat) : pg d es k = if k < es.length then (k, rn d (hfA d es k) (es.drop k)) :: pg d es (k + rn d (hfA d es k) (es.drop k)) else [] := by
  by_cases h : k < es.length
  · have := rn_pos (d := d) h
    obtain ⟨f, hf⟩ : ∃ f, es.length - k = f + 1 := ⟨es.length - k - 1, by omega⟩
    rw [if_pos h]
    unfold pg
    rw [hf]
    show (if _ then _ else _) = _
    rw [if_pos h, pgF_pg d es f (es.length - (k + rn d (hfA d es k) (es.drop k))) _ (by omega) (by omega)]
  · rw [if_neg h]
    unfold pg
    rw [show es.length - k = 0 by omega]
    rfl
theorem pg_len (d : Nat) (es : List Pr) : ∀ (f k : Nat), (pgF d es f k).length ≤ f
  | 0, _ => Nat.le_refl _
  | f + 1, k => by
    show (if _ then _ else _ : List (Nat × Nat)).length ≤ _
    split
    · have := pg_len d es f (k + rn d (hfA d es k) (es.drop k))
      simp only [List.length_cons]
      omega
    · exact Nat.zero_le _
theorem pg_mem (d : Nat) (es : List Pr) : ∀ (f k : Nat) (e : Nat × Nat), e ∈ pgF d es f k → k ≤ e.1 ∧ e.1 < es.length ∧ e.2 = rn d (hfA d es e.1) (es.drop e.1)
  | 0, _, _, h => by cases h
  | f + 1, k, e, h => by
    have h' : e ∈ (if _ then _ else _ : List (Nat × Nat)) := h
    split at h'
    · rename_i hk
      rcases List.mem_cons.1 h' with rfl | h2
      · exact ⟨Nat.le_refl _, hk, rfl⟩
      · have := pg_mem d es f _ e h2
        exact ⟨by omega, this.2⟩
    · cases h'
def gEnc (b o c d : Nat) (es : List Pr) (e : Nat × Nat) : Array Value := #[.int .u8 (hfA d es e.1), .slice (some ⟨b, o + 2 * e.1, none⟩) e.2 (c - e.1)]

set_option maxHeartbeats 1000000 in
theorem parted_any (a : Option Addr) (m c : Nat) (d : Nat) (w : World) :
    Calls Tryz.prog 92 #[.slice a m c, .int .i64 d] w fun e w' => e = .returned (.func (.func 108) #[] #[.pointer (some ⟨w.heap.size, 0, none⟩), .pointer (some ⟨w.heap.size + 1, 0, none⟩)]) ∧ w' = (w.alloc (.cells #[.slice a m c] 68)).alloc (.cells #[.int .i64 d] 3) := by
  go_enter Tryz.func92, Tryz.ntmps92
  go_wp2
  go_ret
  exact ⟨rfl, rfl⟩

/-- Two blocks are kept. -/
def Kp (b bY : Nat) (X1 X2 : World) : Prop := X1.heap.size ≤ X2.heap.size ∧ X2.heap[b]? = X1.heap[b]? ∧ X2.heap[bY]? = X1.heap[bY]?
theorem Kp.refl (b bY : Nat) (X1 : World) : Kp b bY X1 X1 := ⟨Nat.le_refl _, rfl, rfl⟩
theorem Kp.trans {b bY : Nat} {X1 X2 X3 : World} (h : Kp b bY X1 X2) (h' : Kp b bY X2 X3) : Kp b bY X1 X3 := ⟨Nat.le_trans h.1 h'.1, h'.2.1.trans h.2.1, h'.2.2.trans h.2.2⟩
theorem Kp.below {b bY n : Nat} {X1 X2 : World} (h : Below n X1 X2) (hb : b < n) (hY : bY < n) : Kp b bY X1 X2 := ⟨h.size, h.block b hb, h.block bY hY⟩
theorem Kp.prs {b bY o : Nat} {X1 X2 : World} {es : List Pr} (h : Kp b bY X1 X2) (hp : prs X1 b o es) : prs X2 b o es := fun j e he => ⟨(World.cell?_of_block (w := X1) (a := ⟨b, _, none⟩) h.2.1).trans (hp j e he).1, (World.cell?_of_block (w := X1) (a := ⟨b, _, none⟩) h.2.1).trans (hp j e he).2⟩
theorem Kp.cell {b bY : Nat} {X1 X2 : World} (h : Kp b bY X1 X2) (k : Nat) : X2.cell? ⟨bY, k, none⟩ = X1.cell? ⟨bY, k, none⟩ := World.cell?_of_block (w := X1) (a := ⟨bY, k, none⟩) h.2.2

set_option maxRecDepth 100000 in
set_option maxHeartbeats 2000000 in
theorem parted1_in (n l bX bY b o c d : Nat) (es : List Pr) (hN : es.length < 1000000) (hd : ∀ (j : Nat) (e : Pr), es[j]? = some e → d < e.1.size) (hcap : es.length ≤ c) (J Jx : List (Nat × Nat) → World → Prop) (B : Nat) (hJ : AbidesFrom B J)
    (W : World) (hb : b < W.heap.size) (hbY : bY < W.heap.size) (hp : prs W b o es)
    (hc0 : W.cell? ⟨bX, 0, none⟩ = some (.slice (some ⟨b, o, none⟩) es.length c)) (hc1 : W.cell? ⟨bY, 0, none⟩ = some (.int .i64 d))
    (hY : ∀ m pre e W, J pre W → pre.length < (pg d es 0).length → e ∈ pg d es 0 → YieldAt Fence.wide m Tryz.prog l (gEnc b o c d es e) W fun e' W' =>
      (e' = .returned (.bool true) ∧ J (pre ++ [e]) W' ∧ Kp b bY W W') ∨ (e' = .returned (.bool false) ∧ Jx (pre ++ [e]) W'))
    (h0 : J [] W) :
    CallsIn Fence.wide n Tryz.prog 108 #[.func (.yield l) #[] #[], .pointer (some ⟨bX, 0, none⟩), .pointer (some ⟨bY, 0, none⟩)] W fun e W' => (∃ v, e = .returned v) ∧
      (J (pg d es 0) W' ∨ (∃ q, q ≤ (pg d es 0).length ∧ Jx ((pg d es 0).take q) W')) := by
  refine callsIn_of_wp Tryz.func108 rfl trivial ?_ rfl
  simp only [Tryz.ntmps108, List.size_toArray, List.length_cons, List.length_nil, Nat.reduceAdd, Nat.reduceSub, Array.replicate_succ, Array.replicate_zero, List.push_toArray, List.append_toArray, List.nil_append, List.cons_append]
  obtain ⟨N, hNN⟩ : ∃ N, es.length = N := ⟨_, rfl⟩
  have HN : Hid (es.length = N) := hNN
  rw [hNN] at hN hcap hc0
  clear hNN
  refine wpIn_wide.2 ?_
  go_wp2_with fail
  go_loopg [4] N (fun gk v wr => ∃ (k r m q : Nat) (pre : List (Nat × Nat)), v = .slice (some ⟨b, r, none⟩) m q ∧ k + gk = N ∧ (k < N → o + 2 * k = r) ∧ m + k = N ∧ q + k = c ∧ Hid (pg d es 0 = pre ++ pg d es k) ∧ J pre wr ∧ Kp b bY W wr)
  case atStart => exact ⟨0, o, N, c, [], rfl, by omega, fun _ => by omega, by omega, by omega, rfl, h0, Kp.refl _ _ _⟩
  case round =>
    obtain ⟨k, r, m, q, pre, rfl, hk, hr, hm, hq, HP, hJs, BW⟩ := hrel
    have hnr : W.heap.size ≤ wr.heap.size := BW.1
    by_cases hlt : k < N
    · have l1 : (0 : Int) < m := by omega
      replace hr := hr hlt
      obtain ⟨f, hf⟩ : ∃ f, es[k]? = some f := ⟨es[k]'(by rw [HN.out]; omega), List.getElem?_eq_getElem (by rw [HN.out]; omega)⟩
      have hdf := hd k f hf
      have ldf : (d : Int) < f.1.size := by omega
      have hpr := BW.prs hp
      have q0 : ∀ u os, (grow (redrawn wr u) os).cell? ⟨b, r, none⟩ = some (.string f.1) := fun u os => ((below_regrown wr u os).cell (p := ⟨b, r, none⟩) (by show b < _; omega)).trans (by rw [← hr]; exact (hpr k f hf).1)
      have q1 : ∀ u os, (grow (redrawn wr u) os).cell? ⟨bY, 0, none⟩ = some (.int .i64 d) := fun u os => ((below_regrown wr u os).cell (p := ⟨bY, 0, none⟩) (by show bY < _; omega)).trans ((BW.cell 0).trans hc1)
      have g1 := bt_get f.1 d hdf
      obtain ⟨h, hh⟩ : ∃ h, bt f.1 d = h := ⟨_, rfl⟩
      rw [hh] at g1
      have HH : Hid (hfA d es k = h) := (hfA_at hf).trans hh
      go_wp2_with fail
      refine wp_region_quiet_below (by kernel_rfl) (by kernel_rfl) ?_
      repeat (quiet_step (fail))
      refine wpQuiet_nil ?_
      intro w8 hw8
      have B8 : Below wr.heap.size wr w8 := by
        obtain ⟨p, rfl⟩ := hw8
        exact below_regrown _ _ _
      have hJ8 := hJ pre wr w8 none hJs (grown_of B8) (fun _ h => by cases h)
      have BW8 := BW.trans (Kp.below B8 (by omega) (by omega))
      clear hw8 q0 q1 hJs BW B8 hpr
      go_wp2_with fail
      obtain ⟨gk0, hgk0⟩ : ∃ x, gk = x := ⟨_, rfl⟩
      rw [hgk0] at hk
      rename_i KT hKT
      have hKI : Hid (∀ a w, _ → KT a w) := fun a w h => hKT a w ((wpIn_wide (n := n)).1 h)
      clear hKT
      go_loopg [6] (m - 1) (fun gk v wr => ∃ s : Nat, v = .int .i64 s ∧ 1 ≤ s ∧ s + gk = m ∧ Hid (rn d h (es.drop k) = s + rn d h (es.drop (k + s))) ∧ J pre wr ∧ Kp b bY W wr)
      case atStart =>
        refine ⟨1, rfl, Nat.le_refl _, by omega, ?_, hJ8, BW8⟩
        show rn d h (es.drop k) = 1 + rn d h (es.drop (k + 1))
        rw [drop_at hf]
        simp only [rn]
        rw [if_pos hh]
        omega
      case round =>
        clear hJ8 BW8
        obtain ⟨s, rfl, hs1, hs, HS, hJs, BW⟩ := hrel
        have hnr : W.heap.size ≤ wr.heap.size := BW.1
        by_cases hsm : s < m
        · have ls : (s : Int) < m := by omega
          obtain ⟨f2, hf2⟩ : ∃ f, es[k + s]? = some f := ⟨es[k + s]'(by rw [HN.out]; omega), List.getElem?_eq_getElem (by rw [HN.out]; omega)⟩
          have hdf2 := hd (k + s) f2 hf2
          have ldf2 : (d : Int) < f2.1.size := by omega
          have hpr := BW.prs hp
          obtain ⟨r2, hr2⟩ : ∃ x, r + s * 2 = x := ⟨_, rfl⟩
          have q0 : ∀ u os, (grow (redrawn wr u) os).cell? ⟨b, r2, none⟩ = some (.string f2.1) := fun u os => ((below_regrown wr u os).cell (p := ⟨b, r2, none⟩) (by show b < _; omega)).trans (by rw [← hr2, ← hr, show o + 2 * k + s * 2 = o + 2 * (k + s) by omega]; exact (hpr (k + s) f2 hf2).1)
          have q1 : ∀ u os, (grow (redrawn wr u) os).cell? ⟨bY, 0, none⟩ = some (.int .i64 d) := fun u os => ((below_regrown wr u os).cell (p := ⟨bY, 0, none⟩) (by show bY < _; omega)).trans ((BW.cell 0).trans hc1)
          have g2 := bt_get f2.1 d hdf2
          obtain ⟨h2, hh2⟩ : ∃ h, bt f2.1 d = h := ⟨_, rfl⟩
          rw [hh2] at g2
          have HD := drop_at hf2
          have wk : IntKind.i64.wrap ((s : Int) + 1) = ((s + 1 : Nat) : Int) := by rw [IntKind.wrap_i64]; omega
          clear hpr
          by_cases hsame : h2 = h
          · subst hsame
            have HS2 : Hid (rn d h2 (es.drop k) = (s + 1) + rn d h2 (es.drop (k + (s + 1)))) := by
              have h1 := HS.out
              rw [HD] at h1
              simp only [rn] at h1
              rw [if_pos hh2] at h1
              show _ = _
              rw [h1, Nat.add_assoc k s 1]
              omega
            clear HD
            go_wp2_with fail
            refine wp_region_quiet_below (by kernel_rfl) (by kernel_rfl) ?_
            repeat (go_big_quiet_step (fail))
            refine wpQuiet_nil ?_
            intro w9 hw9
            have B9 : Below wr.heap.size wr w9 := by
              obtain ⟨p, rfl⟩ := hw9
              exact below_regrown _ _ _
            have hJ9 := hJ pre wr w9 none hJs (grown_of B9) (fun _ h => by cases h)
            have BW9 := BW.trans (Kp.below B9 (by omega) (by omega))
            clear hw9 hJs BW B9
            clear q0 q1
            go_wp2
            go_roundg (gk - 1)
            case measure => omega
            case rel => exact ⟨s + 1, by first | rfl | (congr 1; omega), by omega, by omega, HS2, hJ9, BW9⟩
          · have hbe : (h2 == h) = false := by rw [beq_eq_false_iff_ne]; exact hsame
            replace HS : Hid (rn d h (es.drop k) = s) := by
              have h1 := HS.out
              rw [HD] at h1
              simp only [rn] at h1
              rw [if_neg (by rw [hh2]; exact hsame)] at h1
              exact h1
            clear HD
            go_wp2_with fail
            refine wp_region_quiet_below (by kernel_rfl) (by kernel_rfl) ?_
            repeat (go_big_quiet_step (fail))
            refine wpQuiet_nil ?_
            intro w9 hw9
            have B9 : Below wr.heap.size wr w9 := by
              obtain ⟨p, rfl⟩ := hw9
              exact below_regrown _ _ _
            have hJ9 := hJ pre wr w9 none hJs (grown_of B9) (fun _ h => by cases h)
            have BW9 := BW.trans (Kp.below B9 (by omega) (by omega))
            clear hw9 hJs BW B9
            clear q0 q1
            have lsm : (s : Int) ≤ m := by omega
            have lsm' : s ≤ m := by omega
            have lsq : (s : Int) ≤ q := by omega
            have lmq : (m : Int) ≤ q := by omega
            have HW : Hid (_ ∧ _) := ⟨hJ9, BW9⟩
            clear hJ9 BW9
            go_wp2_with fail
            refine hKI.out _ _ ?_
            obtain ⟨hJ9, BW9⟩ := HW.out
            have HE : Hid (pg d es k = (k, s) :: pg d es (k + s)) := by
              have h1 := pg_eq d es k
              rw [if_pos (by rw [HN.out]; exact hlt), HH.out, HS.out] at h1
              exact h1
            obtain ⟨fn, tmps, assign, body, hy, hR⟩ := hY (n - 1) pre (k, s) w9 hJ9 (by rw [HP.out, HE.out, List.length_append]; simp) (by rw [HP.out, HE.out]; simp)
            have hHH := HH.out
            unfold gEnc at hy
            dsimp only at hy
            rw [hHH, hr, show c - k = q by omega] at hy
            clear hHH
            gi_wp2
            refine ⟨fun h => (by cases h), hR.mono ?_⟩
            rintro e W4 (⟨rfl, hJ4, B4⟩ | ⟨rfl, hJx4⟩)
            · clear hy hR
              have BW4 := BW9.trans B4
              clear BW9 B4
              gi_wp2
              all_goals
                go_roundg (m - s)
                case measure => omega
                case rel =>
                  refine ⟨k + s, _, m - s, _, pre ++ [(k, s)], rfl, by omega, fun _ => by omega, by omega, by omega, ?_, hJ4, BW4⟩
                  show pg d es 0 = _
                  rw [HP.out, HE.out, List.append_assoc]
                  rfl
            · clear hy hR
              gi_wp2
              refine bodyPost_ret (v := .tuple #[]) (by simp [results, Tryz.results108, go_sem]) rfl ⟨⟨_, rfl⟩, .inr ⟨pre.length + 1, ?_, ?_⟩⟩
              · rw [HP.out, HE.out, List.length_append, List.length_cons]
                omega
              · rw [HP.out, HE.out, List.take_append, List.take_of_length_le (Nat.le_succ _), show pre.length + 1 - pre.length = 1 by omega]
                exact hJx4
        · have ls : ¬ (s : Int) < m := by omega
          replace HS : Hid (rn d h (es.drop k) = s) := by
            have h1 := HS.out
            have e0 : es.drop (k + s) = [] := List.drop_eq_nil_of_le (by rw [HN.out]; omega)
            rw [e0] at h1
            exact h1
          go_wp2_with fail
          refine wp_region_quiet_below (by kernel_rfl) (by kernel_rfl) ?_
          repeat (go_big_quiet_step (fail))
          refine wpQuiet_nil ?_
          intro w9 hw9
          have B9 : Below wr.heap.size wr w9 := by
            obtain ⟨p, rfl⟩ := hw9
            exact below_regrown _ _ _
          have hJ9 := hJ pre wr w9 none hJs (grown_of B9) (fun _ h => by cases h)
          have BW9 := BW.trans (Kp.below B9 (by omega) (by omega))
          clear hw9 hJs BW B9
          have lsm : (s : Int) ≤ m := by omega
          have lsm' : s ≤ m := by omega
          have lsq : (s : Int) ≤ q := by omega
          have lmq : (m : Int) ≤ q := by omega
          have HW : Hid (_ ∧ _) := ⟨hJ9, BW9⟩
          clear hJ9 BW9
          go_wp2_with fail
          refine hKI.out _ _ ?_
          obtain ⟨hJ9, BW9⟩ := HW.out
          have HE : Hid (pg d es k = (k, s) :: pg d es (k + s)) := by
            have h1 := pg_eq d es k
            rw [if_pos (by rw [HN.out]; exact hlt), HH.out, HS.out] at h1
            exact h1
          obtain ⟨fn, tmps, assign, body, hy, hR⟩ := hY (n - 1) pre (k, s) w9 hJ9 (by rw [HP.out, HE.out, List.length_append]; simp) (by rw [HP.out, HE.out]; simp)
          have hHH := HH.out
          unfold gEnc at hy
          dsimp only at hy
          rw [hHH, hr, show c - k = q by omega] at hy
          clear hHH
          gi_wp2
          refine ⟨fun h => (by cases h), hR.mono ?_⟩
          rintro e W4 (⟨rfl, hJ4, B4⟩ | ⟨rfl, hJx4⟩)
          · clear hy hR
            have BW4 := BW9.trans B4
            clear BW9 B4
            gi_wp2
            all_goals
              go_roundg (m - s)
              case measure => omega
              case rel =>
                refine ⟨k + s, _, m - s, _, pre ++ [(k, s)], rfl, by omega, fun _ => by omega, by omega, by omega, ?_, hJ4, BW4⟩
                show pg d es 0 = _
                rw [HP.out, HE.out, List.append_assoc]
                rfl
          · clear hy hR
            gi_wp2
            refine bodyPost_ret (v := .tuple #[]) (by simp [results, Tryz.results108, go_sem]) rfl ⟨⟨_, rfl⟩, .inr ⟨pre.length + 1, ?_, ?_⟩⟩
            · rw [HP.out, HE.out, List.length_append, List.length_cons]
              omega
            · rw [HP.out, HE.out, List.take_append, List.take_of_length_le (Nat.le_succ _), show pre.length + 1 - pre.length = 1 by omega]
              exact hJx4
    · have l1 : ¬ (0 : Int) < m := by omega
      have HQ : Hid (pg d es 0 = pre) := by
        have h1 := HP.out
        rw [pg_eq d es k, if_neg (by rw [HN.out]; exact hlt), List.append_nil] at h1
        exact h1
      have HJ : Hid (J pre wr) := hJs
      clear hJs
      go_wp2
      go_end0
      exact ⟨⟨_, rfl⟩, .inl (by rw [HQ.out]; exact HJ.out)⟩

abbrev Pg (d : Nat) (es : List Pr) := { e : Nat × Nat // e ∈ pg d es 0 }
theorem parted_stops (n bX bY b o c d : Nat) (es : List Pr) (hN : es.length < 1000000) (hd : ∀ (j : Nat) (e : Pr), es[j]? = some e → d < e.1.size) (hcap : es.length ≤ c) (w : World) (hb : b < w.heap.size) (hp : prs w b o es) (h0 : Bx bX 68 (.slice (some ⟨b, o, none⟩) es.length c) w) (h1 : Bx bY 3 (.int .i64 d) w) :
    SeqStopsK Fence.wide n Tryz.prog 108 #[.pointer (some ⟨bX, 0, none⟩), .pointer (some ⟨bY, 0, none⟩)] (fun e : Pg d es => gEnc b o c d es e.1) (fun A B => Kp b bY A B) (fun ys => ys.map (·.1) = pg d es 0) (fun pre => ∃ q, q ≤ (pg d es 0).length ∧ pre.map (·.1) = (pg d es 0).take q) (pg d es 0).length w := fun l J Jx W hW hJ hJx hY hJ0 => by
  refine (parted1_in n l bX bY b o c d es hN hd hcap (fun pre0 W => ∃ pre : List (Pg d es), pre.map (·.1) = pre0 ∧ J pre W) (fun pre0 W => ∃ pre : List (Pg d es), pre.map (·.1) = pre0 ∧ Jx pre W) W.heap.size
    (fun s A C row hs hg hr => by obtain ⟨pre, h1, h2⟩ := hs; exact ⟨pre, h1, hJ pre A C row h2 hg hr⟩) W (Nat.lt_of_lt_of_le hb hW.size) (Nat.lt_of_lt_of_le h1.lt hW.size) (prs_below hW hb hp) (Bx.cell ((hW.block bX h0.lt).trans h0)) (Bx.cell ((hW.block bY h1.lt).trans h1))
    (fun m pre0 e W1 hj hl he => by
      obtain ⟨pre, h1, h2⟩ := hj
      have hl' : pre.length < (pg d es 0).length := by rw [← h1, List.length_map] at hl; exact hl
      refine (yieldAny m (hY pre ⟨e, he⟩ W1 h2 hl')).mono fun e' W' h => ?_
      rcases h with ⟨ha, hb, hc⟩ | ⟨ha, hb⟩
      · exact .inl ⟨ha, ⟨pre ++ [⟨e, he⟩], by rw [List.map_append, h1]; rfl, hb⟩, hc⟩
      · exact .inr ⟨ha, ⟨pre ++ [⟨e, he⟩], by rw [List.map_append, h1]; rfl, hb⟩⟩) ⟨[], rfl, hJ0⟩).mono ?_
  rintro e W' ⟨he, ⟨pre, h1, h2⟩ | ⟨q, hq, pre, h1, h2⟩⟩
  · exact ⟨he, .inl ⟨pre, h1, h2⟩⟩
  · exact ⟨he, .inr ⟨pre, ⟨q, hq, h1⟩, h2⟩⟩
end Go.Proofs.YtbpcciifaekffaaGreatDoor
