/- told's closure. -/
import Derived.Test.YtbmapdkcccdmfaaGreatDoorM1
import Derived.Test.YtbmapdkcccdmfaaGreatDoorM10
import Derived.Test.YtbmapdkcccdmfaaGreatDoorM11
import Derived.Test.YtbmapdkcccdmfaaGreatDoorM12
import Derived.Test.YtbmapdkcccdmfaaGreatDoorM13
import Derived.Test.YtbmapdkcccdmfaaGreatDoorM14
import Derived.Test.YtbmapdkcccdmfaaGreatDoorM15
import Derived.Test.YtbmapdkcccdmfaaGreatDoorM17
import Derived.Test.YtbmapdkcccdmfaaGreatDoorM18
import Derived.Test.YtbmapdkcccdmfaaGreatDoorM19
import Derived.Test.YtbmapdkcccdmfaaGreatDoorM2
import Derived.Test.YtbmapdkcccdmfaaGreatDoorM20
import Derived.Test.YtbmapdkcccdmfaaGreatDoorM21
import Derived.Test.YtbmapdkcccdmfaaGreatDoorM22
import Derived.Test.YtbmapdkcccdmfaaGreatDoorM23
import Derived.Test.YtbmapdkcccdmfaaGreatDoorM24
import Derived.Test.YtbmapdkcccdmfaaGreatDoorM25
import Derived.Test.YtbmapdkcccdmfaaGreatDoorM26
import Derived.Test.YtbmapdkcccdmfaaGreatDoorM3
import Derived.Test.YtbmapdkcccdmfaaGreatDoorM32
import Derived.Test.YtbmapdkcccdmfaaGreatDoorM33
import Derived.Test.YtbmapdkcccdmfaaGreatDoorM34
import Derived.Test.YtbmapdkcccdmfaaGreatDoorM35
import Derived.Test.YtbmapdkcccdmfaaGreatDoorM36
import Derived.Test.YtbmapdkcccdmfaaGreatDoorM37
import Derived.Test.YtbmapdkcccdmfaaGreatDoorM38
import Derived.Test.YtbmapdkcccdmfaaGreatDoorM4
import Derived.Test.YtbmapdkcccdmfaaGreatDoorM40
import Derived.Test.YtbmapdkcccdmfaaGreatDoorM41
import Derived.Test.YtbmapdkcccdmfaaGreatDoorM6
import Derived.Test.YtbmapdkcccdmfaaGreatDoorM7
import Derived.Test.YtbmapdkcccdmfaaGreatDoorM8
import Derived.Test.YtbmapdkcccdmfaaGreatDoorM9
import Derived.Test.YtbmapdkcccdmfaaGreatDoorRows
import Derived.Test.YtbmapdkcccdmfaaGreatDoorM39
import Derived.LaidEqlPtr
namespace Go.Proofs.YtbmapdkcccdmfaaGreatDoor
open Go.RowKit Go.Shelf Go.Sort

def TL (bP bT bB zz : Nat) (ts : List ByteArray) (W : World) : Prop := ∃ v, Bx bP 56 (.pointer (some ⟨bT, 0, none⟩)) W ∧ Bx bB 22 v W ∧ W.ownsRow zz 9 1 v ts.length (ts.map .string)
def tdB (b bT : Nat) (nd : Nd) : Bool := decide (b = bT) || !decide ((eS nd.x).size < 32)
theorem info_node : (Tryz.prog.info? 61).map (fun i => (i.zero, i.size, i.bytes)) = some (some (.agg #[.bool false, .string ⟨#[]⟩, .slice none 0 0, .string ⟨#[]⟩, .slice none 0 0]), 5, 88) := by kernel_rfl
theorem info_text : (Tryz.prog.info? 9).map (fun i => (i.zero, i.size, i.bytes)) = some (some (.string ⟨#[]⟩), 1, 16) := by kernel_rfl

structure TdK (W2 : World) (ao : Option Addr) (b n c0 : Nat) (t : ByteArray) (S : Nat → Bool) (x12 x13 x14 x15 x16 x17 : Value) (W : World) : Prop where
 e : Below W2.heap.size W2 W
 f0 : S 0 = true → x12 = Value.slice ao n c0
 f1 : S 1 = true → x13 = Value.pointer (some ⟨b, 0, none⟩)
 f2 : S 2 = true → x14 = Value.pointer (some ⟨b, 0, none⟩)
 f3 : S 3 = true → x15 = Value.pointer (some ⟨b, 3, none⟩)
 f4 : S 4 = true → x16 = Value.string t
 f5 : S 5 = true → ∃ g, x17 = .slice (some ⟨g, 0, none⟩) 1 1 ∧ W2.heap.size ≤ g ∧ g < W.heap.size ∧ W.heap[g]? = some (.cells #[.string t] 9 (0, 0))
theorem TdK.grow {W2 : World} {ao : Option Addr} {b n c0 : Nat} {t : ByteArray} {S : Nat → Bool} {x12 x13 x14 x15 x16 x17 : Value} {W W' : World} (h : TdK W2 ao b n c0 t S x12 x13 x14 x15 x16 x17 W) (hb : Below W.heap.size W W') : TdK W2 ao b n c0 t S x12 x13 x14 x15 x16 x17 W' :=
 ⟨belowStep h.e h.e.size hb, h.f0, h.f1, h.f2, h.f3, h.f4, fun s => (h.f5 s).imp fun _ ⟨j1, j0, j2, j3⟩ => ⟨j1, j0, Nat.lt_of_lt_of_le j2 hb.size, (hb.block _ j2).trans j3⟩⟩
set_option maxRecDepth 20000 in
set_option maxHeartbeats 2000000 in
theorem told1_any (nd : Nd) (b bT bP bB zz : Nat) (ts : List ByteArray) (p : Nat → Prop) (W : World) (hnd : ndIn p W b nd) (hp : ∀ q, p q → q < bB) (hTop : ∃ c t, W.heap[bT]? = some (.cells c t (0, 0))) (hT : TL bP bT bB zz ts W) (hz : bB < zz) (hzP : bP < zz) (hPB : bP ≠ bB) (hzz : zz ≤ W.heap.size) (hLl : ts.length < 1000000) :
  Calls Tryz.prog 60 #[.pointer (some ⟨b, 0, none⟩), .pointer (some ⟨bP, 0, none⟩), .pointer (some ⟨bB, 0, none⟩)] W fun e W' => e = .returned (.tuple #[]) ∧ W.heap.size ≤ W'.heap.size ∧ Below bB W W' ∧ TL bP bT bB zz (if tdB b bT nd then ts ++ [eS nd.x] else ts) W' := by
 have KS := fun W h => stands_any nd b p W h
 obtain ⟨i0, hi0, hz0, hz1, hz2⟩ := info_parts info_text
 obtain ⟨v, hP, hB, hown⟩ := hT
 have cP := hP.cell
 obtain ⟨q, hq⟩ : ∃ q, decide ((eS nd.x).size < 32) = q := ⟨_, rfl⟩
 have htd : tdB b bT nd = (decide (b = bT) || !q) := by unfold tdB; rw [hq]
 rw [hq] at KS
 obtain ⟨t, ht⟩ : ∃ t, eS nd.x = t := ⟨_, rfl⟩
 have c3 : W.cell? ⟨b, 3, none⟩ = some (.string t) := by
  obtain ⟨x, ss⟩ := nd
  obtain ⟨im, a1, c1, h1, h2, h3, h4, h5⟩ := hnd
  rw [← ht, Lib.cell_of_heap h2]
  rfl
 have hbl : b < bB := by
  obtain ⟨x, ss⟩ := nd
  obtain ⟨im, a1, c1, h1, _⟩ := hnd
  exact hp b h1
 rw [ht, htd]
 have heq : (binOp .eql 56 (.pointer (some ⟨b, 0, none⟩)) (.pointer (some ⟨bT, 0, none⟩))).run Tryz.prog W = .ok (.bool (decide (b = bT))) W := by
  obtain ⟨j0, hj0, _, hj1, _⟩ := info_parts info_node
  by_cases hbt : b = bT
  ·subst hbt
   rw [decide_eq_true rfl]
   exact run_eql_ptr_same W _ Tryz.underlying56 hj0
  ·rw [decide_eq_false hbt]
   obtain ⟨x, ss⟩ := nd
   obtain ⟨im, a1, c1, h1, h2, _⟩ := hnd
   obtain ⟨cT, tT, hTc⟩ := hTop
   exact run_eql_ptr_other W Tryz.underlying56 hj0 (by rw [hj1]; decide) (fun e => hbt (by injection e)) h2 hTc
 obtain ⟨e0, he0⟩ : ∃ e0, decide (b = bT) = e0 := ⟨_, rfl⟩
 rw [he0] at heq ⊢
 obtain ⟨ao, c0', hsv⟩ : ∃ ao c0, v = .slice ao ts.length c0 := by
  rcases hown.2 with ⟨h, h0⟩ | ⟨g, c, _, h, _⟩
  ·exact ⟨none, 0, by rw [h, h0]⟩
  ·exact ⟨_, c, h⟩
 have hne : ∀ q, v.ownBlock = some q → zz ≤ q := fun q e => (hown.lt q e).1
 -- what follows where the node is told
 have FIN : ∀ W2 : World, Below W.heap.size W W2 → W2.cell? ⟨b, 3, none⟩ = some (.string t) ∧ Bx bB 22 v W2 ∧ W2.ownsRow zz 9 1 v ts.length (ts.map .string) ∧ Bx bP 56 (.pointer (some ⟨bT, 0, none⟩)) W2 := fun W2 B2 =>
  ⟨(B2.cell (p := ⟨b, 3, none⟩) (Nat.lt_trans hbl hB.lt)).trans c3, (B2.block _ hB.lt).trans hB, owns_below hown B2, (B2.block _ hP.lt).trans hP⟩
 subst hsv
 have APP : ∀ (y3 y4 y5 y6 y7 y8 y9 y10 y11 : Value) (W2 : World), Below W.heap.size W W2 → ∀ Q : Exit → Act → World → Prop, (∀ a' W', (W.heap.size ≤ W'.heap.size ∧ Below bB W W' ∧ TL bP bT bB zz (ts ++ [t]) W') → Q .normal { tmps := a', defers := [] } W') →
   (Code.region 1 #[{ dst := some 12, op := Op.load 22 (Operand.tmp 2), type := 22, pos := "trie.go:57", after := #[], guard := none }, { dst := some 13, op := Op.move (Operand.tmp 0), type := 56, pos := "trie.go:57", after := #[], guard := none }, { dst := some 14, op := Op.nilCheck (Operand.tmp 13), type := 0, pos := "trie.go:57", after := #[{ on := 1, ground := Ground.data }], guard := none }, { dst := some 15, op := Op.fieldAddr 61 (Operand.tmp 14) 1, type := 0, pos := "trie.go:57", after := #[{ on := 2, ground := Ground.data }], guard := none }, { dst := some 16, op := Op.load 9 (Operand.tmp 15), type := 9, pos := "trie.go:57", after := #[{ on := 3, ground := Ground.data }], guard := none }, { dst := some 17, op := Op.buildSlice 22 1 #[(0, Operand.tmp 16)], type := 22, pos := "trie.go:57", after := #[{ on := 4, ground := Ground.data }], guard := none }, { dst := some 18, op := Op.call { callee := Callee.builtin Builtin.append, args := #[Operand.tmp 12, Operand.tmp 17], argTypes := #[22, 22] }, type := 22, pos := "trie.go:57", after := #[{ on := 0, ground := Ground.data }, { on := 5, ground := Ground.data }], guard := none }, { dst := none, op := Op.store 22 (Operand.tmp 2) (Operand.tmp 18), type := 0, pos := "trie.go:57", after := #[{ on := 6, ground := Ground.data }, { on := 6, ground := Ground.chain }, { on := 0, ground := Ground.phase }, { on := 1, ground := Ground.phase }, { on := 2, ground := Ground.phase }, { on := 3, ground := Ground.phase }, { on := 4, ground := Ground.phase }, { on := 5, ground := Ground.phase }, { on := 6, ground := Ground.phase }], guard := none }] true).wp Tryz.prog Q { tmps := #[.pointer (some ⟨b, 0, none⟩), .pointer (some ⟨bP, 0, none⟩), .pointer (some ⟨bB, 0, none⟩), y3, y4, y5, y6, y7, y8, y9, y10, y11, undef, undef, undef, undef, undef, undef, undef], defers := [] } W2 := by
  intro y3 y4 y5 y6 y7 y8 y9 y10 y11 W2 B2 Q hQ
  obtain ⟨d3, dB, down, dP⟩ := FIN W2 B2
  have HQ : Hid (_) := hQ
  clear hQ
  have hbW2 : b < W2.heap.size := Nat.lt_trans hbl dB.lt
  refine region_inv_tail 6 (fun S aa W => ∃ x12 x13 x14 x15 x16 x17 : Value, aa = { tmps := #[Value.pointer (some ⟨b, 0, none⟩), Value.pointer (some ⟨bP, 0, none⟩), Value.pointer (some ⟨bB, 0, none⟩), y3, y4, y5, y6, y7, y8, y9, y10, y11, x12, x13, x14, x15, x16, x17, undef], defers := [] } ∧ TdK W2 ao b ts.length c0' t S x12 x13 x14 x15 x16 x17 W) (by kernel_rfl) (by kernel_rfl) ?_ ?_ ?_
  ·exact ⟨undef, undef, undef, undef, undef, undef, rfl, ⟨(Below.refl _ W2).drew, nofun, nofun, nofun, nofun, nofun, nofun⟩⟩
  ·intro i o S aa W hin hi hun hJ hall K hK
   obtain ⟨x12, x13, x14, x15, x16, x17, rfl, h⟩ := hJ
   have hlt : i < 6 := hin
   have hcase : i = 0 ∨ i = 1 ∨ i = 2 ∨ i = 3 ∨ i = 4 ∨ i = 5 := by omega
   rcases hcase with rfl | rfl | rfl | rfl | rfl | rfl
   all_goals (have ho := (Option.some.inj hi).symm; subst ho; clear hi hlt hin)
   ·have cW := Bx.cell ((h.e.block _ dB.lt).trans dB)
    go_simp
    exact hK _ _ ⟨_, _, _, _, _, _, rfl, { h with f0 := fun _ => rfl }⟩
   ·go_simp
    exact hK _ _ ⟨_, _, _, _, _, _, rfl, { h with f1 := fun _ => rfl }⟩
   ·have s_1 : S 1 = true := hall ⟨1, .data⟩ (by simp) rfl
    obtain rfl := h.f1 s_1
    go_simp
    exact hK _ _ ⟨_, _, _, _, _, _, rfl, { h with f2 := fun _ => rfl }⟩
   ·have s_2 : S 2 = true := hall ⟨2, .data⟩ (by simp) rfl
    obtain rfl := h.f2 s_2
    go_simp
    exact hK _ _ ⟨_, _, _, _, _, _, rfl, { h with f3 := fun _ => rfl }⟩
   ·have s_3 : S 3 = true := hall ⟨3, .data⟩ (by simp) rfl
    obtain rfl := h.f3 s_3
    have cW := (h.e.cell (p := ⟨b, 3, none⟩) hbW2).trans d3
    go_simp
    exact hK _ _ ⟨_, _, _, _, _, _, rfl, { h with f4 := fun _ => rfl }⟩
   ·have s_4 : S 4 = true := hall ⟨4, .data⟩ (by simp) rfl
    obtain rfl := h.f4 s_4
    go_simp
    have h1 := h.grow ((Below.refl _ W).alloc (Nat.le_refl _) (.cells #[.string t] 9))
    exact hK _ _ ⟨_, _, _, _, _, _, rfl, { h1 with f5 := fun _ => ⟨W.heap.size, rfl, h.e.size, by simp, World.alloc_heap_new W _⟩ }⟩
  ·rintro S aa W hall ⟨x12, x13, x14, x15, x16, x17, rfl, h⟩
   obtain rfl := h.f0 (hall 0 (by decide))
   obtain rfl := h.f1 (hall 1 (by decide))
   obtain rfl := h.f2 (hall 2 (by decide))
   obtain rfl := h.f3 (hall 3 (by decide))
   obtain rfl := h.f4 (hall 4 (by decide))
   obtain ⟨gg, rfl, hgg, hhg, hcg⟩ := h.f5 (hall 5 (by decide))
   have BWD := h.e
   clear h hall
   have hsD := BWD.size
   have hsB := B2.size
   have hown3 := owns_below down BWD
   have hB3 : Bx bB 22 (.slice ao ts.length c0') W := (BWD.block _ dB.lt).trans dB
   have hP3 : Bx bP 56 (.pointer (some ⟨bT, 0, none⟩)) W := (BWD.block _ dP.lt).trans dP
   have hzW : zz ≤ W.heap.size := by omega
   have B23 := belowStep B2 B2.size BWD
   have hBl := hB.lt
   have HV : Hid (_ ∧ _ ∧ _ ∧ _ ∧ _) := ⟨hown3, hB3, hP3, B23, hcg⟩
   clear hown3 hB3 hP3 B23 hcg BWD down dB dP d3 KS heq c3 hown FIN cP
   simp only [List.drop_succ_cons, List.drop_zero]
   go_wp2_with (at_builtin; refine wpList_append_where _ rfl _ _ 22 rfl zz 9 i0 _ 1 16 Tryz.underlying22 hi0 hz0 hz1 hz2 rfl (by decide) _ ts.length (ts.map .string) rfl HV.out.1 ⟨gg, 0, none⟩ 1 1 [.string t] rfl rfl ?c1 ?c2 (by unfold maxLen; omega) (by omega) ?c3 (by decide) ?_)
   case c1 =>
    intro j u hj
    rw [Addr.add_lit, Lib.cell_of_heap HV.out.2.2.2.2, Nat.zero_add]
    simpa using hj
   case c2 =>
    intro u hu
    simp only [List.mem_cons, List.not_mem_nil, or_false] at hu
    rw [hu]
    rfl
   case c3 => omega
   intro v' w6 a2 a3 a4 a5
   obtain ⟨hown3, hB3, hP3, B23, hcg⟩ := HV.out
   have hneB : some bB ≠ (Value.slice ao ts.length c0').ownBlock := fun e => by have := hne bB e.symm; omega
   have hneP : some bP ≠ (Value.slice ao ts.length c0').ownBlock := fun e => by have := hne bP e.symm; omega
   have hB6 : Bx bB 22 (.slice ao ts.length c0') w6 := (a3.block bB hB3.lt hneB).trans hB3
   have hP6 : Bx bP 56 (.pointer (some ⟨bT, 0, none⟩)) w6 := (a3.block bP hP3.lt hneP).trans hP3
   have cB6 := hB6.cell
   have fB6 := hB6.fr
   obtain ⟨g, c6, rfl⟩ : ∃ g c, v' = .slice (some ⟨g, 0, none⟩) (ts.length + 1) c := by
    rcases a2.2 with ⟨h, _⟩ | ⟨g, c, _, h, _⟩
    ·exact absurd h a4
    ·exact ⟨g, c, h⟩
   have hgz := (a2.lt g rfl).1
   have hB7 := hB6.put (.slice (some ⟨g, 0, none⟩) (ts.length + 1) c6)
   have hP7 := hP6.other hPB 0 (.slice (some ⟨g, 0, none⟩) (ts.length + 1) c6)
   have hown7 : (w6.setCell ⟨bB, 0, none⟩ (.slice (some ⟨g, 0, none⟩) (ts.length + 1) c6)).ownsRow zz 9 1 (.slice (some ⟨g, 0, none⟩) (ts.length + 1) c6) (ts.length + 1) (ts.map .string ++ [.string t]) :=
    a2.kept (row := some bB) ⟨rfl, rfl, rfl, by simp [World.setCell], fun q _ hq => Below.heap_setCell _ _ _ _ (fun e => hq (by simp [e]))⟩ (Or.inr (fun e => by injection e with e; have e' : g = bB := e; omega))
   have hs6 := a3.size
   have B7 := ((B23.mono (Nat.le_of_lt hBl)).grown a3 (by omega) (fun q e => by have := hne q e; omega)).setCell (p := ⟨bB, 0, none⟩) (Nat.le_refl _) (.slice (some ⟨g, 0, none⟩) (ts.length + 1) c6)
   have HF : Hid (_ ∧ _ ∧ _ ∧ _) := ⟨hB7, hP7, hown7, B7⟩
   clear hB7 hP7 hown7 B7 a2 a3 a4 a5 hB6 hP6 hown3 hB3 hP3 B23 hcg HV
   go_wp2
   obtain ⟨hB7, hP7, hown7, B7⟩ := HF.out
   refine HQ.out _ _ ⟨by simp [World.setCell]; omega, B7, _, hP7, hB7, ?_⟩
   rw [List.length_append, List.map_append]
   exact hown7
 cases e0 with
 | true =>
  go_enter Tryz.func60, Tryz.ntmps60
  go_wp2_with fail
  refine APP _ _ _ _ _ _ _ _ _ W (Below.refl _ _) _ (fun a' W' hW' => ?_)
  have HW : Hid (_) := hW'
  clear hW'
  go_end0
  exact ⟨rfl, HW.out⟩
 | false =>
  go_enter Tryz.func60, Tryz.ntmps60
  go_wp2_with fail
  refine (KS _ hnd).mono ?_
  rintro e w1 ⟨rfl, B1⟩
  cases q with
  | true =>
   go_wp2
   go_end0
   have F1 := FIN w1 B1
   exact ⟨rfl, B1.size, B1.mono (Nat.le_of_lt hB.lt), _, F1.2.2.2, F1.2.1, F1.2.2.1⟩
  | false =>
   go_wp2_with fail
   refine APP _ _ _ _ _ _ _ _ _ w1 B1 _ (fun a' W' hW' => ?_)
   have HW : Hid (_) := hW'
   clear hW'
   go_end0
   exact ⟨rfl, HW.out⟩
end Go.Proofs.YtbmapdkcccdmfaaGreatDoor
namespace Go.Proofs.YtbmapdkcccdmfaaGreatDoor
open Go.RowKit Go.Shelf Go.Sort

def hnd (bP bB : Nat) : Value := .func (.func 60) #[] #[.pointer (some ⟨bP, 0, none⟩), .pointer (some ⟨bB, 0, none⟩)]
def ownT (x : It) : List ByteArray := if (eS x).size < 32 then [] else [eS x]
mutual
def allN : Nd → List ByteArray
 | .mk x ss => ownT x ++ allS ss
def allS : Sts → List ByteArray
 | .nil => []
 | .cons _ n r => allN n ++ allS r
end
mutual
def cN : Nd → Nat
 | .mk _ ss => cS ss + 1
def cS : Sts → Nat
 | .nil => 0
 | .cons _ n r => cN n + cS r
end
def hdd (b bT : Nat) (nd : Nd) : List ByteArray := (if tdB b bT nd then [eS nd.x] else []) ++ allS nd.ss

mutual
theorem cN_pos : ∀ n : Nd, 1 ≤ cN n
 | .mk _ ss => by show 1 ≤ cS ss + 1; omega
theorem cS_len : ∀ ss : Sts, ss.len ≤ cS ss
 | .nil => Nat.le_refl _
 | .cons _ n r => by
  have h1 := cN_pos n
  have h2 := cS_len r
  show r.len + 1 ≤ cN n + cS r
  omega
end
theorem TL.keep {bP bT bB zz : Nat} {ts : List ByteArray} {W W' : World} (h : TL bP bT bB zz ts W) (hb : Below W.heap.size W W') : TL bP bT bB zz ts W' := by
 obtain ⟨v, hP, hB, hown⟩ := h
 exact ⟨v, (hb.block _ hP.lt).trans hP, (hb.block _ hB.lt).trans hB, owns_below hown hb⟩
theorem pre_tuple (a b : List ByteArray) (c : Bool) (t : ByteArray) : (if c = true then a ++ [t] else a) ++ b = a ++ ((if c = true then [t] else []) ++ b) := by
 cases c <;> simp

end Go.Proofs.YtbmapdkcccdmfaaGreatDoor
namespace Go.Proofs.YtbmapdkcccdmfaaGreatDoor
open Go.RowKit Go.Shelf Go.Sort

theorem cS_snoc : ∀ (s : Sts) (p : ByteArray) (n : Nd), cS (s.snoc p n) = cS s + cN n
 | .nil, _, n => by show cN n + 0 = 0 + cN n; omega
 | .cons q m r, p, n => by
  show cN m + cS (r.snoc p n) = cN m + cS r + cN n
  rw [cS_snoc r p n]
  omega
theorem cS_fold : ∀ (ks : List (Int × Nd)) (s : Sts), cS (ks.foldl (fun s k => s.snoc (oneB k.1) k.2) s) = cS s + (ks.map fun k => cN k.2).sum
 | [], s => by simp
 | k :: r, s => by
  rw [List.foldl_cons, cS_fold r, cS_snoc, List.map_cons, List.sum_cons]
  omega
theorem rsE_len (d : Nat) (es : List Pr) : (rsE d es).length ≤ es.length := by
 unfold rsE
 split
 ·split <;> simp
 ·simp
theorem sum_cN (f : Nat) (nd : List Pr → Nd) (d : Nat) (rs : List Pr) (h : ∀ l : List Pr, cN (nd l) ≤ 1 + f * l.length) : ∀ gs : List (Nat × Nat), (∀ g ∈ gs, 1 ≤ g.2) → ((gs.map (kdE nd d rs)).map fun k => cN k.2).sum ≤ (f + 1) * (gs.map fun g => g.2).sum
 | [], _ => by simp
 | g :: r, hg => by
  have h1 := h ((rs.drop g.1).take g.2)
  have h2 : ((rs.drop g.1).take g.2).length ≤ g.2 := by rw [List.length_take]; omega
  have h3 := sum_cN f nd d rs h r (fun g h => hg g (by simp [h]))
  have h4 := hg g (by simp)
  have h5 := Nat.mul_le_mul_left f h2
  simp only [List.map_cons, List.sum_cons]
  rw [Nat.mul_add, Nat.add_mul, Nat.one_mul]
  have h6 : cN (kdE nd d rs g).2 = cN (nd ((rs.drop g.1).take g.2)) := rfl
  omega
theorem pg_pos (d : Nat) (rs : List Pr) (g : Nat × Nat) (hg : g ∈ pg d rs 0) : 1 ≤ g.2 := by
 obtain ⟨_, h1, h2⟩ := pg_mem d rs _ _ g hg
 have h3 := rn_pos (d := d) h1
 omega
theorem cN_nd : ∀ (f d : Nat) (es : List Pr), cN (ndF f d es) ≤ 1 + f * es.length
 | 0, _, _ => by show 0 + 1 ≤ _; omega
 | _ + 1, _, [] => by show 0 + 1 ≤ _; omega
 | _ + 1, _, [e] => by show 0 + 1 ≤ _; omega
 | f + 1, d, e :: e2 :: r => by
  obtain ⟨a, ha⟩ : ∃ a, common (tl d e) (tl d ((e2 :: r).getLastD e2)) = a := ⟨_, rfl⟩
  by_cases h : a = 0
  ·rw [nd_fork f d e e2 r (by rw [ha]; exact h)]
   have h1 := sum_cN f (ndF f (d + 1)) d (rsE d (e :: e2 :: r)) (cN_nd f (d + 1)) (pg d (rsE d (e :: e2 :: r)) 0) (pg_pos _ _)
   have hs := pg_sum d (rsE d (e :: e2 :: r)) ((rsE d (e :: e2 :: r)).length - 0) 0 (by omega) (Nat.zero_le _)
   change ((pg d (rsE d (e :: e2 :: r)) 0).map fun g => g.2).sum + 0 = _ at hs
   have h2 := rsE_len d (e :: e2 :: r)
   have h3 : cN (fkN (ndF f (d + 1)) d (e :: e2 :: r)) = cS (fkS ((pg d (rsE d (e :: e2 :: r)) 0).map (kdE (ndF f (d + 1)) d (rsE d (e :: e2 :: r))))) + 1 := rfl
   rw [h3]
   unfold fkS
   rw [cS_fold]
   have h4 : cS .nil = 0 := rfl
   rw [h4]
   have h5 : (f + 1) * ((pg d (rsE d (e :: e2 :: r)) 0).map fun g => g.2).sum ≤ (f + 1) * (e :: e2 :: r).length := Nat.mul_le_mul_left _ (by omega)
   omega
  ·rw [nd_bridge f d e e2 r a ha h]
   have h1 := cN_nd f (d + a) (e :: e2 :: r)
   have h3 : cN (brN ((tl d e).extract 0 a) (ndF f (d + a) (e :: e2 :: r))) = cN (ndF f (d + a) (e :: e2 :: r)) + 0 + 1 := rfl
   rw [h3, Nat.add_mul, Nat.one_mul]
   have : 1 ≤ (e :: e2 :: r).length := by simp
   omega
theorem cN_top (es : List Pr) (h : es.length ≤ 200) : cN (topN es) < 100000 := by
 have h1 := cN_nd 129 0 (ents es)
 rw [ents_len] at h1
 unfold topN
 omega

def wyL (G : Nd → List ByteArray) (es : List Pr) : List ByteArray := if es.length = 0 then [] else G (topN es)
def TdP (n : Nat) (G : Nd → List ByteArray) (es : List Pr) (e : Ending) (w' : World) : Prop := (¬ RightP es ∧ e = .returned (.tuple #[.slice none 0 0, .int .i64 60])) ∨
 (RightP es ∧ ∃ (es' : List Pr) (v : Value), es'.Perm es ∧ SortedP es' ∧ e = .returned (.tuple #[v, .int .i64 0]) ∧ w'.ownsRow n 9 1 v (wyL G es').length ((wyL G es').map .string))
def WkC (f : Nat) (caps : Array Value) (w : World) (G : Nd → List ByteArray) : Prop := ∀ (nd : Nd) (bT bP bB zz : Nat) (p : Nat → Prop) (W : World), Below w.heap.size w W → bB < zz → bP < zz → bP ≠ bB → bT < bB → ndIn p W bT nd → (∀ q, p q → q < bB) → TL bP bT bB zz [] W → zz ≤ W.heap.size → cN nd < 100000 → (∃ es' : List Pr, nd = topN es' ∧ RightP es' ∧ SortedP es' ∧ 0 < es'.length) →
 Calls Tryz.prog f (#[.pointer (some ⟨bT, 0, none⟩), hnd bP bB] ++ caps) W fun e W' => e = .returned (.tuple #[]) ∧ W.heap.size ≤ W'.heap.size ∧ Below bB W W' ∧ TL bP bT bB zz (G nd) W'

theorem owns_lower {n m : Nat} {t : Nat} {v : Value} {k : Nat} {l : List Value} {w : World} (h : w.ownsRow n t 1 v k l) (hm : m ≤ n) : w.ownsRow m t 1 v k l := by
 refine ⟨h.1, ?_⟩
 rcases h.2 with h | ⟨g, c, r, h1, h2, h3⟩
 ·exact .inl h
 ·exact .inr ⟨g, c, r, h1, Nat.le_trans hm h2, h3⟩
set_option maxRecDepth 20000 in
set_option maxHeartbeats 2000000 in
theorem told_any (f : Nat) (caps : Array Value) (G : Nd → List ByteArray) (es : List Pr) (a : Option Addr) (c n : Nat) (w : World) (hl : Laid w) (hn : n ≤ w.heap.size) (hp : slP n w a es) (hW : WkC f caps w G) (hcf : ∀ (args : Array Value) (w : World), (callFunc f args).run Tryz.prog w = .ok (.enter f args) w) :
  Calls Tryz.prog 32 #[.slice a es.length c, .func (.func f) #[] caps] w fun e w' => Below w.heap.size w w' ∧ TdP w.heap.size G es e w' := by
 have KS := topOf_any es a c n w hl hn hp
 go_enter Tryz.func32, Tryz.ntmps32
 go_wp2_with fail
 refine KS.mono ?_
 rintro e w1 ⟨B1, hcase⟩
 have hl1 := hl.below B1
 rcases hcase with ⟨hnr, rfl⟩ | ⟨hr, hnil, rfl⟩ | ⟨hr, es', b', hperm, hsort, h0, rfl, hnd⟩
 ·have HX : Hid (_) := hnr
  clear hnr
  go_wp2
  exact bodyPost_ret (v := .tuple #[.slice none 0 0, .int .i64 60]) (by simp [results, Tryz.results32, go_sem]) rfl ⟨belowStep B1 B1.size (be_new w1 _), .inl ⟨HX.out, rfl⟩⟩
 ·have HX : Hid (_ ∧ _) := ⟨hr, hnil⟩
  clear hr hnil
  go_wp2
  refine bodyPost_ret (v := .tuple #[.slice none 0 0, .int .i64 0]) (by simp [results, Tryz.results32, go_sem]) rfl ⟨belowStep B1 B1.size (be_new w1 _), .inr ⟨HX.out.1, [], _, ?_, ?_, rfl, ?_⟩⟩
  ·rw [HX.out.2]
  ·intro i j x y _ h
   cases h
  ·exact ⟨rfl, .inl ⟨rfl, rfl⟩⟩
 ·have HX : Hid (_ ∧ _ ∧ _ ∧ _ ∧ _) := ⟨hr, hperm, hsort, h0, hnd⟩
  clear hr hperm hsort h0 hnd
  have A1 := be_new w1 (.cells #[.pointer (some ⟨b', 0, none⟩)] 56)
  have A2 := be_new (w1.alloc (.cells #[.pointer (some ⟨b', 0, none⟩)] 56)) (.cells #[.slice none 0 0] 22)
  have hP1 : Bx w1.heap.size 56 (.pointer (some ⟨b', 0, none⟩)) (w1.alloc (.cells #[.pointer (some ⟨b', 0, none⟩)] 56)) := World.alloc_heap_new w1 _
  have hB1 : Bx (w1.heap.size + 1) 22 (.slice none 0 0) ((w1.alloc (.cells #[.pointer (some ⟨b', 0, none⟩)] 56)).alloc (.cells #[.slice none 0 0] 22)) := by
   have := World.alloc_heap_new (w1.alloc (.cells #[.pointer (some ⟨b', 0, none⟩)] 56)) (.cells #[.slice none 0 0] 22)
   rwa [show (w1.alloc (.cells #[.pointer (some ⟨b', 0, none⟩)] 56)).heap.size = w1.heap.size + 1 by simp] at this
  have A12 := belowStep A1 A1.size A2
  have hsz : ((w1.alloc (.cells #[.pointer (some ⟨b', 0, none⟩)] 56)).alloc (.cells #[.slice none 0 0] 22)).heap.size = w1.heap.size + 2 := by simp
  have hP2 := (A2.block _ hP1.lt).trans hP1
  have B12 := belowStep B1 B1.size A12
  have hs1 := B1.size
  have HW : Hid (_ ∧ _ ∧ _ ∧ _) := ⟨A12, hP2, hB1, B12⟩
  have HZ : Hid _ := hsz
  clear A1 A2 hP1 hB1 A12 hP2 B12 hsz
  go_wp2_with fail
  obtain ⟨A12, hP2, hB1, B12⟩ := HW.out
  obtain ⟨hr, hperm, hsort, h0, hnd⟩ := HX.out
  have hr' : RightP es' := (right_perm hperm).2 hr
  have hbl : b' < w1.heap.size := by
   obtain ⟨x, hx⟩ : ∃ x, topN es' = x := ⟨_, rfl⟩
   rw [hx] at hnd
   obtain ⟨x, ss⟩ := x
   obtain ⟨_, _, _, h1, _⟩ := hnd
   exact h1.2
  refine (hW (topN es') b' w1.heap.size (w1.heap.size + 1) (w1.heap.size + 2) (fun k => w.heap.size ≤ k ∧ k < w1.heap.size) _ B12 (by omega) (by omega) (by omega) (by omega) (ndIn_below A12 (fun _ h => h.2) _ _ hnd) (fun q hq => by have := hq.2; omega) ⟨_, hP2, hB1, ⟨rfl, .inl ⟨rfl, rfl⟩⟩⟩ (Nat.le_of_eq HZ.out.symm) (cN_top es' hr'.1) ⟨es', rfl, hr', hsort, h0⟩).mono ?_
  rintro e W' ⟨rfl, hs3, B3, v, hP3, hB3, hown3⟩
  rw [HZ.out] at hs3
  have cB := hB3.cell
  have BW := B12.trans (B3.mono (by omega))
  have hwy : wyL G es' = G (topN es') := by unfold wyL; rw [if_neg (by omega)]
  rw [← hwy] at hown3
  have HF : Hid (_ ∧ _ ∧ _) := ⟨BW, hown3, hs3⟩
  clear BW hown3 hwy B3 B12 hP2 hB1 A12 HW hnd hP3 hB3 hperm hsort hr hr'
  go_wp2
  obtain ⟨BW, hown3, hs3⟩ := HF.out
  obtain ⟨hr, hperm, hsort, h0, hnd⟩ := HX.out
  refine bodyPost_ret (v := .tuple #[v, .int .i64 0]) (by simp [results, Tryz.results32, go_sem]) rfl ⟨BW, .inr ⟨hr, es', v, hperm, hsort, rfl, ?_⟩⟩
  exact owns_lower hown3 (by omega)
end Go.Proofs.YtbmapdkcccdmfaaGreatDoor
namespace Go.Proofs.YtbmapdkcccdmfaaGreatDoor
open Go.RowKit Go.Shelf Go.Sort

def pfx (p path : ByteArray) : Bool := Lib.hasPrefix path.data.toList p.data.toList
def rst (path p : ByteArray) : ByteArray := ⟨(Lib.trimPrefix path.data.toList p.data.toList).toArray⟩
mutual
def wyN (path : ByteArray) : Nd → List ByteArray
 | .mk x ss => ownT x ++ wyS path ss
def wyS (path : ByteArray) : Sts → List ByteArray
 | .nil => []
 | .cons p n r => if pfx p path then wyN (rst path p) n else wyS path r
end
def hdW (b bT : Nat) (path : ByteArray) (nd : Nd) : List ByteArray := (if tdB b bT nd then [eS nd.x] else []) ++ wyS path nd.ss
theorem hdW_ne {b bT : Nat} (h : b ≠ bT) (path : ByteArray) (nd : Nd) : hdW b bT path nd = wyN path nd := by
 obtain ⟨x, ss⟩ := nd
 unfold hdW tdB
 rw [decide_eq_false h]
 show (if (false || !decide ((eS x).size < 32)) = true then [eS x] else []) ++ wyS path ss = ownT x ++ wyS path ss
 unfold ownT
 by_cases h1 : (eS x).size < 32
 ·rw [decide_eq_true h1, if_pos h1]
  rfl
 ·rw [decide_eq_false h1, if_neg h1]
  rfl

set_option maxRecDepth 20000 in
set_option maxHeartbeats 4000000 in
theorem handAlong_any (bT bP bB zz : Nat) (hz : bB < zz) (hzP : bP < zz) (hPB : bP ≠ bB) (hTB : bT < bB) (path : ByteArray) (b : Nat) (nd : Nd) (ts : List ByteArray) (p : Nat → Prop) (W : World) (hNd : ndIn p W b nd) (hp : ∀ q, p q → q < bB) (hbT : b ≤ bT) (hTop : ∃ c t, W.heap[bT]? = some (.cells c t (0, 0))) (hT : TL bP bT bB zz ts W) (hzz : zz ≤ W.heap.size) (hcn : ts.length + cN nd < 1000000) :
  Calls Tryz.prog 34 #[.pointer (some ⟨b, 0, none⟩), .string path, hnd bP bB] W fun e W' => e = .returned (.tuple #[]) ∧ W.heap.size ≤ W'.heap.size ∧ Below bB W W' ∧ TL bP bT bB zz (ts ++ hdW b bT path nd) W' := by
 obtain ⟨F, hF⟩ : ∃ F, ts ++ hdW b bT path nd = F := ⟨_, rfl⟩
 rw [hF]
 show Calls Tryz.prog 34 #[.pointer (some ⟨b, 0, none⟩), .string path, .func (.func 60) #[] #[.pointer (some ⟨bP, 0, none⟩), .pointer (some ⟨bB, 0, none⟩)]] W _
 have HX : Hid (_ ∧ _ ∧ _ ∧ _ ∧ _ ∧ _) := ⟨hF, hNd, hp, hTop, hT, hcn⟩
 clear hF hNd hp hTop hT hcn
 go_enter Tryz.func34, Tryz.ntmps34
 go_wp2
 go_step3
 go_wp2
 go_step3
 go_wp2
 go_loopg [1, 6] (cN nd) (fun gk x1 x6 wr => ∃ path' b', x1 = .string path' ∧ x6 = .pointer (some ⟨b', 0, none⟩) ∧ W.heap.size ≤ wr.heap.size ∧ Below bB W wr ∧ b' ≤ bT ∧ Hid (∃ nd' ts' p', gk = cN nd' ∧ ndIn p' wr b' nd' ∧ (∀ q, p' q → q < bB) ∧ TL bP bT bB zz ts' wr ∧ ts' ++ hdW b' bT path' nd' = F ∧ ts'.length + cN nd' < 1000000))
 case atStart =>
  obtain ⟨hF, hNd, hp, hTop, hT, hcn⟩ := HX.out
  exact ⟨path, b, rfl, rfl, Nat.le_refl _, Below.refl _ _, hbT, ⟨nd, ts, p, rfl, hNd, hp, hT, hF, hcn⟩⟩
 case round =>
  obtain ⟨path', b', rfl, rfl, hsr, BR, hb', hr⟩ := hrel
  obtain ⟨nd', ts', p', hgk, hnd', hp', hT', hF', hcn'⟩ := hr.out
  clear hr
  have hTop' : ∃ c t, wr.heap[bT]? = some (.cells c t (0, 0)) := by
   obtain ⟨c', t', h⟩ := HX.out.2.2.2.1
   exact ⟨c', t', (BR.block bT hTB).trans h⟩
  obtain ⟨x, ss⟩ := nd'
  have K1 := told1_any (.mk x ss) b' bT bP bB zz ts' p' wr hnd' hp' hTop' hT' hz hzP hPB (by omega) (by have : cN (.mk x ss) = cS ss + 1 := rfl; omega)
  obtain ⟨im, a, c, h1, h2, h3, h4, h5⟩ := hnd'
  have c4 : wr.cell? ⟨b', 4, none⟩ = some (.slice a ss.len c) := by rw [Lib.cell_of_heap h2]; rfl
  have hcs : ts'.length + cS ss + 1 < 1000000 := hcn'
  have hgs : gk = cS ss + 1 := hgk
  have hbB : b' < bB := hp' b' h1
  have hin : ts' ++ hdW b' bT path' (.mk x ss) = (if tdB b' bT (.mk x ss) then ts' ++ [eS (Nd.mk x ss).x] else ts') ++ wyS path' ss := by rw [pre_tuple]; rfl
  rw [hin] at hF'
  obtain ⟨ts1, hts1⟩ : ∃ q, (if tdB b' bT (.mk x ss) then ts' ++ [eS (Nd.mk x ss).x] else ts') = q := ⟨_, rfl⟩
  have l1 : ts1.length ≤ ts'.length + 1 := by rw [← hts1]; split <;> simp
  rw [hts1] at K1 hF'
  obtain ⟨N, hN⟩ : ∃ N, ss.len = N := ⟨_, rfl⟩
  rw [hN] at c4
  have hN6 : N < 1000000 := by have := cS_len ss; omega
  obtain ⟨g0, hg0⟩ : ∃ q, gk = q := ⟨_, rfl⟩
  have HY : Hid (_ ∧ _ ∧ _ ∧ _ ∧ _) := ⟨h5, hN, hF', hp', hg0⟩
  clear h1 h2 h3 h4 h5 hN hF' hT' hTop' hp' hin hts1 hcn' hgk
  go_wp2_with fail
  refine K1.mono ?_
  rintro e W1 ⟨rfl, hs1, B1, hT1⟩
  have c41 := (B1.cell (p := ⟨b', 4, none⟩) hbB).trans c4
  have HT1 : Hid _ := hT1
  have BR1 := BR.trans B1
  have hsr1 : W.heap.size ≤ W1.heap.size := by omega
  clear K1 c4 hT1
  go_wp2_with fail
  go_loopg [1, 20] N (fun gk x1 i wq => ∃ k : Nat, k + gk = N ∧ x1 = .string path' ∧ i = .int .i64 k ∧ W.heap.size ≤ wq.heap.size ∧ Below bB W wq ∧ Hid (∃ r, r.len = gk ∧ stIn (fun q => p' q ∧ q < b') wq a k r ∧ TL bP bT bB zz ts1 wq ∧ ts1 ++ wyS path' r = F ∧ cS r < g0 ∧ ts1.length + cS r < 1000000))
  case atStart =>
   obtain ⟨h5, hN, hF', hp', hg0⟩ := HY.out
   exact ⟨0, by omega, rfl, rfl, hsr1, BR1, ⟨ss, hN, stIn_of (fun q hq => ⟨hq, B1.block q (hp' q hq.1)⟩) ss a 0 h5, HT1.out, hF', by omega, by omega⟩⟩
  case round =>
   obtain ⟨k, hk, rfl, rfl, hsq, BQ, hr⟩ := hrel
   by_cases hlt : k < N
   ·have l1 : (k : Int) < N := by omega
    obtain ⟨r, hrl, hst, hTL, hFF, hcg, hcc⟩ := hr.out
    clear hr
    cases r with
    | nil => exact absurd hrl (by show ¬ (0 = _); omega)
    | cons t n r =>
     obtain ⟨⟨b0, o, b2, hp0, rfl, c0, c1, hnd⟩, hst'⟩ := hst
     have hb2 : b2 < b' := by
      obtain ⟨x', ss'⟩ := n
      obtain ⟨_, _, _, h, _⟩ := hnd
      exact h.2
     have hp' := HY.out.2.2.2.1
     have hb0 : b0 < bB := hp' b0 hp0.1
     obtain ⟨q, hq⟩ : ∃ p, o + 2 * k = p := ⟨_, rfl⟩
     rw [hq] at c0 c1
     have hq2 : o + k * 2 = q := by omega
     have wk : IntKind.i64.wrap ((k : Int) + 1) = ((k + 1 : Nat) : Int) := by rw [IntKind.wrap_i64]; omega
     have KC := fun w => Tryz.strings_CutPrefix path' t w
     obtain ⟨s1, hs1'⟩ : ∃ s1, rst path' t = s1 := ⟨_, rfl⟩
     obtain ⟨is, his⟩ : ∃ is, pfx t path' = is := ⟨_, rfl⟩
     unfold rst at hs1'
     unfold pfx at his
     rw [hs1', his] at KC
     have HC : Hid (_ ∧ _) := ⟨hs1', his⟩
     clear hs1' his
     go_wp2_with fail
     refine (KC _).mono ?_
     rintro e w3 ⟨rfl, rfl⟩
     have A2 := be_new wr (.cells #[.string t, .pointer (some ⟨b2, 0, none⟩)] 117)
     have hsz : bB < wr.heap.size := by omega
     have hs2 := A2.size
     have hpw : ∀ q, (p' q ∧ q < b') → q < wr.heap.size := fun q hq => by have := hp' q hq.1; omega
     have hnd2 := ndIn_below A2 hpw n b2 hnd
     have hst2 := stIn_of (fun q hq => ⟨hq, A2.block q (hpw q hq)⟩) r _ (k + 1) hst'
     have hT2 := hTL.keep A2
     have B2 := BQ.trans (A2.mono (Nat.le_of_lt hsz))
     have hcg' : cN n + cS r < g0 := hcg
     have hcc' : ts1.length + (cN n + cS r) < 1000000 := hcc
     cases is with
     | true =>
      have hFF' : ts1 ++ hdW b2 bT s1 n = F := by
       rw [hdW_ne (by omega), ← hFF, ← HC.out.1]
       show _ = ts1 ++ (if pfx t path' = true then _ else _)
       rw [if_pos (show pfx t path' = true from HC.out.2)]
       rfl
      have HR : Hid (∃ nd' ts' p', cN n = cN nd' ∧ ndIn p' (wr.alloc (.cells #[.string t, .pointer (some ⟨b2, 0, none⟩)] 117)) b2 nd' ∧ (∀ q, p' q → q < bB) ∧ TL bP bT bB zz ts' (wr.alloc (.cells #[.string t, .pointer (some ⟨b2, 0, none⟩)] 117)) ∧ ts' ++ hdW b2 bT s1 nd' = F ∧ ts'.length + cN nd' < 1000000) := ⟨n, ts1, _, rfl, hnd2, fun q hq => hp' q hq.1, hT2, hFF', by omega⟩
      clear hnd2 hst2 hT2 hFF' A2 hst' hnd hTL KC hFF c0 c1
      go_wp2
      go_roundg (cN n)
      case measure => omega
      case rel => exact ⟨s1, b2, rfl, rfl, by omega, B2, by omega, HR⟩
     | false =>
      have hFF' : ts1 ++ wyS path' r = F := by
       rw [← hFF]
       show _ = ts1 ++ (if pfx t path' = true then _ else _)
       rw [if_neg (by rw [show pfx t path' = false from HC.out.2]; decide)]
      have HR : Hid (∃ r, r.len = gk - 1 ∧ stIn (fun q => p' q ∧ q < b') (wr.alloc (.cells #[.string t, .pointer (some ⟨b2, 0, none⟩)] 117)) (some ⟨b0, o, none⟩) (k + 1) r ∧ TL bP bT bB zz ts1 (wr.alloc (.cells #[.string t, .pointer (some ⟨b2, 0, none⟩)] 117)) ∧ ts1 ++ wyS path' r = F ∧ cS r < g0 ∧ ts1.length + cS r < 1000000) := ⟨r, by have : r.len + 1 = gk := hrl; omega, hst2, hT2, hFF', by omega, by omega⟩
      clear hnd2 hst2 hT2 hFF' A2 hst' hnd hTL KC hFF c0 c1
      go_wp2
      go_roundg (gk - 1)
      case measure => omega
      case rel => exact ⟨k + 1, by omega, rfl, by first | rfl | (congr 1; omega), by omega, B2, HR⟩
   ·have l1 : ¬ (k : Int) < N := by omega
    obtain ⟨r, hrl, hst, hTL, hFF, hcg, hcc⟩ := hr.out
    clear hr
    have h0 : gk = 0 := by omega
    subst h0
    cases r with
    | cons t n r => exact absurd hrl (by show ¬ (r.len + 1 = 0); omega)
    | nil =>
     have hFF' : ts1 = F := by rw [← hFF]; exact (List.append_nil _).symm
     have HTL : Hid (TL bP bT bB zz F wr) := by rw [← hFF']; exact hTL
     clear hst hFF hFF' hTL
     go_wp2
     go_end0
     exact ⟨rfl, hsq, BQ, HTL.out⟩

def wayL (path : ByteArray) (nd : Nd) : List ByteArray := eS nd.x :: wyS path nd.ss
theorem hdW_top (bT : Nat) (path : ByteArray) (nd : Nd) : [] ++ hdW bT bT path nd = wayL path nd := by
 unfold hdW tdB
 rw [decide_eq_true rfl]
 rfl
theorem enter_prove1 (args : Array Value) (w : World) : (callFunc 33 args).run Tryz.prog w = .ok (.enter 33 args) w := by
 simp [go_sem]
set_option maxRecDepth 20000 in
set_option maxHeartbeats 1000000 in
theorem walk_way (w : World) (path : ByteArray) (bQ : Nat) (hQ : Bx bQ 9 (.string path) w) : WkC 33 #[.pointer (some ⟨bQ, 0, none⟩)] w (wayL path) := by
 intro nd bT bP bB zz p W BW hz hzP hPB hTB hNd hp hT hzz hcn _
 have hTop : ∃ c t, W.heap[bT]? = some (.cells c t (0, 0)) := by
  obtain ⟨x, ss⟩ := nd
  obtain ⟨_, _, _, _, h2, _⟩ := hNd
  exact ⟨_, _, h2⟩
 have h := handAlong_any bT bP bB zz hz hzP hPB hTB path bT nd [] p W hNd hp (Nat.le_refl _) hTop hT hzz (by simp; omega)
 rw [hdW_top] at h
 have hQ1 : Bx bQ 9 (.string path) W := (BW.block _ hQ.lt).trans hQ
 have cQ := hQ1.cell
 unfold hnd at h ⊢
 show Calls Tryz.prog 33 #[.pointer (some ⟨bT, 0, none⟩), .func (.func 60) #[] #[.pointer (some ⟨bP, 0, none⟩), .pointer (some ⟨bB, 0, none⟩)], .pointer (some ⟨bQ, 0, none⟩)] W _
 clear hTop hNd hT
 go_enter Tryz.func33, Tryz.ntmps33
 go_wp2_with fail
 refine h.mono ?_
 rintro e W' ⟨rfl, h1, h2, h3⟩
 have HF : Hid (_ ∧ _ ∧ _) := ⟨h1, h2, h3⟩
 clear h1 h2 h3 h
 go_wp2
 go_end0
 exact ⟨rfl, HF.out⟩
def kyP (key : ByteArray) : ByteArray := ofOf (key.extract 0 (min key.size 64))
set_option maxRecDepth 20000 in
set_option maxHeartbeats 1000000 in
theorem prove_any (es : List Pr) (key : ByteArray) (a : Option Addr) (c n : Nat) (w : World) (hl : Laid w) (hn : n ≤ w.heap.size) (hp : slP n w a es) :
  Calls Tryz.prog 14 #[.slice a es.length c, .string key] w fun e w' => Below w.heap.size w w' ∧ TdP w.heap.size (wayL (kyP key)) es e w' := by
 have hm : (min (key.size : Int) 64).toNat = min key.size 64 := by omega
 have KO := of_any (key.extract 0 (min key.size 64)) (by rw [ByteArray.size_extract]; omega) w
 rw [show ofOf (key.extract 0 (min key.size 64)) = kyP key from rfl] at KO
 obtain ⟨P, hP⟩ : ∃ P, kyP key = P := ⟨_, rfl⟩
 rw [hP] at KO ⊢
 clear hP
 go_enter Tryz.func14, Tryz.ntmps14
 go_wp2_with fail
 refine KO.mono ?_
 rintro e w1 ⟨rfl, B1⟩
 clear KO
 have A1 := be_new w1 (.cells #[.string P] 9)
 have B12 := belowStep B1 B1.size A1
 have hQ : Bx w1.heap.size 9 (.string P) (w1.alloc (.cells #[.string P] 9)) := World.alloc_heap_new w1 _
 have hn2 : n ≤ (w1.alloc (.cells #[.string P] 9)).heap.size := Nat.le_trans hn B12.size
 have KT := told_any 33 #[.pointer (some ⟨w1.heap.size, 0, none⟩)] (wayL P) es a c n _ (hl.below B12) hn2 (slP_below (B12.mono hn) hp) (walk_way _ P w1.heap.size hQ) enter_prove1
 have HB : Hid _ := B12
 clear B12 A1 hQ B1
 go_wp2_with fail
 refine KT.mono ?_
 rintro e w3 ⟨B3, hcase⟩
 have BW := belowStep HB.out HB.out.size B3
 have hlow := HB.out.size
 rcases hcase with ⟨hnr, rfl⟩ | ⟨hr, es', v, h1, h2, rfl, h3⟩
 ·have HX : Hid (Below w.heap.size w w3 ∧ TdP w.heap.size (wayL P) es (.returned (.tuple #[.slice none 0 0, .int .i64 60])) w3) := ⟨BW, .inl ⟨hnr, rfl⟩⟩
  clear hnr BW B3 KT
  go_wp2
  exact bodyPost_ret (v := .tuple #[.slice none 0 0, .int .i64 60]) (by simp [results, Tryz.results14, go_sem]) rfl HX.out
 ·have HX : Hid (Below w.heap.size w w3 ∧ TdP w.heap.size (wayL P) es (.returned (.tuple #[v, .int .i64 0])) w3) := ⟨BW, .inr ⟨hr, es', v, h1, h2, rfl, owns_lower h3 hlow⟩⟩
  clear hr h1 h2 h3 BW B3 KT
  go_wp2
  exact bodyPost_ret (v := .tuple #[v, .int .i64 0]) (by simp [results, Tryz.results14, go_sem]) rfl HX.out
end Go.Proofs.YtbmapdkcccdmfaaGreatDoor
namespace Go.Proofs.YtbmapdkcccdmfaaGreatDoor
open Go.RowKit Go.Shelf Go.Sort

def four4 : List Pr := [(⟨#[100, 111]⟩, ⟨#[118, 101, 114, 98]⟩), (⟨#[100, 111, 103]⟩, ⟨#[112, 117, 112, 112, 121]⟩), (⟨#[100, 111, 103, 101]⟩, ⟨#[99, 111, 105, 110]⟩), (⟨#[104, 111, 114, 115, 101]⟩, ⟨#[115, 116, 97, 108, 108, 105, 111, 110]⟩)]
def eDo : Pr := (⟨#[6, 4, 6, 15]⟩, ⟨#[118, 101, 114, 98]⟩)
def eDog : Pr := (⟨#[6, 4, 6, 15, 6, 7]⟩, ⟨#[112, 117, 112, 112, 121]⟩)
def eDoge : Pr := (⟨#[6, 4, 6, 15, 6, 7, 6, 5]⟩, ⟨#[99, 111, 105, 110]⟩)
def eHorse : Pr := (⟨#[6, 8, 6, 15, 7, 2, 7, 3, 6, 5]⟩, ⟨#[115, 116, 97, 108, 108, 105, 111, 110]⟩)
theorem ents4 : ents four4 = [eDo, eDog, eDoge, eHorse] := by decide +kernel

theorem refI_dig {x : It} {t d : ByteArray} (h : eS x = t) (hs : 32 ≤ t.size) (hd : sumOf t = d) : refI x = .mk false d [] := by
 unfold refI
 rw [h, if_neg (by omega), hd]
def tx (s : ByteArray) : It := .mk false s []
def X7 : It := .mk true ⟨#[]⟩ [tx ⟨#[53]⟩, tx ⟨#[99, 111, 105, 110]⟩]
def nod7 : Nd := .mk X7 .nil
def X6 : It := .mk true ⟨#[]⟩ [zIt, zIt, zIt, zIt, zIt, zIt, X7, zIt, zIt, zIt, zIt, zIt, zIt, zIt, zIt, zIt, tx ⟨#[112, 117, 112, 112, 121]⟩]
def nod6 : Nd := .mk X6 (.cons ⟨#[6]⟩ nod7 .nil)
def X5 : It := .mk true ⟨#[]⟩ [tx ⟨#[23]⟩, X6]
def nod5 : Nd := .mk X5 (.cons ⟨#[7]⟩ nod6 .nil)
def X4 : It := .mk true ⟨#[]⟩ [zIt, zIt, zIt, zIt, zIt, zIt, X5, zIt, zIt, zIt, zIt, zIt, zIt, zIt, zIt, zIt, tx ⟨#[118, 101, 114, 98]⟩]
def nod4 : Nd := .mk X4 (.cons ⟨#[6]⟩ nod5 .nil)
def X2 : It := .mk true ⟨#[]⟩ [tx ⟨#[0, 111]⟩, tx D1.d]
def nod2 : Nd := .mk X2 (.cons ⟨#[6, 15]⟩ nod4 .nil)
def XH : It := .mk true ⟨#[]⟩ [tx ⟨#[32, 111, 114, 115, 101]⟩, tx ⟨#[115, 116, 97, 108, 108, 105, 111, 110]⟩]
def nodH : Nd := .mk XH .nil
def X1 : It := .mk true ⟨#[]⟩ [zIt, zIt, zIt, zIt, tx D2.d, zIt, zIt, zIt, XH, zIt, zIt, zIt, zIt, zIt, zIt, zIt, zIt]
def nod1 : Nd := .mk X1 (.cons ⟨#[4]⟩ nod2 (.cons ⟨#[8]⟩ nodH .nil))
def X0 : It := .mk true ⟨#[]⟩ [tx ⟨#[22]⟩, tx D3.d]
def nod0 : Nd := .mk X0 (.cons ⟨#[6]⟩ nod1 .nil)

theorem n4 : ndF 126 4 [eDo, eDog, eDoge] = nod4 := by kernel_rfl
theorem t4 : eS X4 = D1.t := by decide +kernel
theorem r4 : refI X4 = tx D1.d := refI_dig t4 (by decide +kernel) D1.sum
theorem n2 : ndF 127 2 [eDo, eDog, eDoge] = nod2 := by
 rw [nd_bridge 126 2 eDo eDog [eDoge] 2 (by decide +kernel) (by decide), show 2 + 2 = 4 from rfl, n4]
 unfold brN
 rw [show nod4.x = X4 from rfl, r4]
 kernel_rfl
theorem t2 : eS X2 = D2.t := by decide +kernel
theorem r2 : refI X2 = tx D2.d := refI_dig t2 (by decide +kernel) D2.sum
theorem nH : ndF 127 2 [eHorse] = nodH := by kernel_rfl
theorem n1 : ndF 128 1 [eDo, eDog, eDoge, eHorse] = nod1 := by
 rw [nd_fork 127 1 eDo eDog [eDoge, eHorse] (by decide +kernel)]
 have hp : (pg 1 (rsE 1 [eDo, eDog, eDoge, eHorse]) 0).map (kdE (ndF 127 2) 1 (rsE 1 [eDo, eDog, eDoge, eHorse])) = [(4, ndF 127 2 [eDo, eDog, eDoge]), (8, ndF 127 2 [eHorse])] := by kernel_rfl
 unfold fkN
 rw [hp, n2, nH]
 have hv : vlE 1 [eDo, eDog, eDoge, eHorse] = ⟨#[]⟩ := by decide +kernel
 rw [hv]
 unfold fkI fkS
 simp only [List.foldl_cons, List.foldl_nil]
 rw [show nod2.x = X2 from rfl, r2]
 show Nd.mk (It.mk true ⟨#[]⟩ (((List.replicate 16 zIt ++ [zIt]).set 4 (tx D2.d)).set 8 (refI XH))) (((Sts.nil).snoc ⟨#[4]⟩ nod2).snoc ⟨#[8]⟩ nodH) = nod1
 kernel_rfl
theorem t1 : eS X1 = D3.t := by decide +kernel
theorem r1 : refI X1 = tx D3.d := refI_dig t1 (by decide +kernel) D3.sum
theorem n0 : ndF 129 0 [eDo, eDog, eDoge, eHorse] = nod0 := by
 rw [nd_bridge 128 0 eDo eDog [eDoge, eHorse] 1 (by decide +kernel) (by decide), show 0 + 1 = 1 from rfl, n1]
 unfold brN
 rw [show nod1.x = X1 from rfl, r1]
 kernel_rfl
theorem t0 : eS X0 = D4.t := by decide +kernel
theorem top4 : topN four4 = nod0 := by
 unfold topN
 rw [ents4, n0]
theorem topB4 : topB four4 = D4.t := by
 unfold topB
 rw [if_neg (by decide), top4]
 exact t0
theorem way4 : wyL (wayL (kyP ⟨#[100, 111, 103]⟩)) four4 = [D4.t, D3.t, D2.t, D1.t] := by
 unfold wyL
 rw [if_neg (by decide), top4]
 have hk : kyP ⟨#[100, 111, 103]⟩ = ⟨#[6, 4, 6, 15, 6, 7]⟩ := by decide +kernel
 rw [hk]
 unfold wayL
 have o1 : ownT X1 = [D3.t] := by
  unfold ownT
  rw [t1, if_neg (by decide +kernel)]
 have o2 : ownT X2 = [D2.t] := by
  unfold ownT
  rw [t2, if_neg (by decide +kernel)]
 have o4 : ownT X4 = [D1.t] := by
  unfold ownT
  rw [t4, if_neg (by decide +kernel)]
 have o5 : ownT X5 = [] := by decide +kernel
 have o6 : ownT X6 = [] := by decide +kernel
 have w6 : wyN ⟨#[]⟩ nod6 = [] := by
  show ownT X6 ++ (if pfx ⟨#[6]⟩ ⟨#[]⟩ = true then _ else []) = []
  rw [o6, if_neg (by decide +kernel)]
  rfl
 have w5 : wyN ⟨#[7]⟩ nod5 = [] := by
  show ownT X5 ++ (if pfx ⟨#[7]⟩ ⟨#[7]⟩ = true then wyN (rst ⟨#[7]⟩ ⟨#[7]⟩) nod6 else []) = []
  rw [o5, if_pos (by decide +kernel), show rst ⟨#[7]⟩ ⟨#[7]⟩ = ⟨#[]⟩ by decide +kernel, w6]
  rfl
 have w4 : wyN ⟨#[6, 7]⟩ nod4 = [D1.t] := by
  show ownT X4 ++ (if pfx ⟨#[6]⟩ ⟨#[6, 7]⟩ = true then wyN (rst ⟨#[6, 7]⟩ ⟨#[6]⟩) nod5 else []) = _
  rw [o4, if_pos (by decide +kernel), show rst ⟨#[6, 7]⟩ ⟨#[6]⟩ = ⟨#[7]⟩ by decide +kernel, w5]
  rfl
 have w2 : wyN ⟨#[6, 15, 6, 7]⟩ nod2 = [D2.t, D1.t] := by
  show ownT X2 ++ (if pfx ⟨#[6, 15]⟩ ⟨#[6, 15, 6, 7]⟩ = true then wyN (rst ⟨#[6, 15, 6, 7]⟩ ⟨#[6, 15]⟩) nod4 else []) = _
  rw [o2, if_pos (by decide +kernel), show rst ⟨#[6, 15, 6, 7]⟩ ⟨#[6, 15]⟩ = ⟨#[6, 7]⟩ by decide +kernel, w4]
  rfl
 have w1 : wyN ⟨#[4, 6, 15, 6, 7]⟩ nod1 = [D3.t, D2.t, D1.t] := by
  show ownT X1 ++ (if pfx ⟨#[4]⟩ ⟨#[4, 6, 15, 6, 7]⟩ = true then wyN (rst ⟨#[4, 6, 15, 6, 7]⟩ ⟨#[4]⟩) nod2 else _) = _
  rw [o1, if_pos (by decide +kernel), show rst ⟨#[4, 6, 15, 6, 7]⟩ ⟨#[4]⟩ = ⟨#[6, 15, 6, 7]⟩ by decide +kernel, w2]
  rfl
 show eS X0 :: (if pfx ⟨#[6]⟩ ⟨#[6, 4, 6, 15, 6, 7]⟩ = true then wyN (rst ⟨#[6, 4, 6, 15, 6, 7]⟩ ⟨#[6]⟩) nod1 else []) = _
 rw [t0, if_pos (by decide +kernel), show rst ⟨#[6, 4, 6, 15, 6, 7]⟩ ⟨#[6]⟩ = ⟨#[4, 6, 15, 6, 7]⟩ by decide +kernel, w1]
end Go.Proofs.YtbmapdkcccdmfaaGreatDoor
namespace Go.Proofs.YtbmapdkcccdmfaaGreatDoor
open Go.RowKit Go.Shelf Go.Sort

def klt (x y : Pr) : Prop := ltStr x.1.data.toList y.1.data.toList = true
theorem klt_asymm {x y : Pr} (h : klt x y) (h' : klt y x) : False := by
 have a := of_decide_eq_true h
 have b := of_decide_eq_true h'
 exact absurd b (List.lt_asymm a)
theorem sorted_eq : ∀ (a b : List Pr), a.Perm b → a.Pairwise klt → b.Pairwise klt → a = b
 | [], b, h, _, _ => (List.nil_perm.1 h).symm
 | x :: r, [], h, _, _ => absurd h.length_eq (by simp)
 | x :: r, y :: s, h, ha, hb => by
  have hxy : x = y := by
   have hx : x ∈ y :: s := h.mem_iff.1 (by simp)
   have hy : y ∈ x :: r := h.mem_iff.2 (by simp)
   rcases List.mem_cons.1 hx with e | hx
   ·exact e
   ·rcases List.mem_cons.1 hy with e | hy
    ·exact e.symm
    ·exact (klt_asymm (List.rel_of_pairwise_cons ha hy) (List.rel_of_pairwise_cons hb hx)).elim
  subst hxy
  rw [sorted_eq r s (List.Perm.cons_inv h) (List.Pairwise.of_cons ha) (List.Pairwise.of_cons hb)]
theorem sorted_pw (es : List Pr) (hr : RightP es) (hs : SortedP es) : es.Pairwise klt := by
 rw [List.pairwise_iff_getElem]
 intro i j hi hj hij
 have e1 : es[i]? = some es[i] := List.getElem?_eq_getElem hi
 have e2 : es[j]? = some es[j] := List.getElem?_eq_getElem hj
 unfold klt
 cases hxy : ltStr es[i].1.data.toList es[j].1.data.toList with
 | true => rfl
 | false => exact absurd (bytes_inj2 (tri_ltStr _ _ hxy (hs i j _ _ hij e1 e2))) (hr.2.2 i j _ _ hij e1 e2)
theorem sorted_one {es a b : List Pr} (hr : RightP es) (h1 : a.Perm es) (h2 : b.Perm es) (s1 : SortedP a) (s2 : SortedP b) : a = b :=
 sorted_eq a b (h1.trans h2.symm) (sorted_pw a ((right_perm h1).2 hr) s1) (sorted_pw b ((right_perm h2).2 hr) s2)
end Go.Proofs.YtbmapdkcccdmfaaGreatDoor
