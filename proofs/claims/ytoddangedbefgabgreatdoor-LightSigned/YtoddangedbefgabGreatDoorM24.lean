/- Lemmas: A slice of cells that may be written, with room behind it: what append makes of it. No condition but that it is of at most a million cells. -/
import Derived.Test.YtoddangedbefgabGreatDoorM15
namespace Go.Proofs.YtoddangedbefgabGreatDoor
open Go.RowKit Go.Sort
structure Bs (g n cap : Nat) (f : Nat → Value) (W : World) : Prop where
 z : g < W.heap.size
 nc : n ≤ cap
 c : ∀ j, j < n → W.cell? ⟨g, j, none⟩ = some (f j)
 s : ∀ j, j < cap → (W.cell? ⟨g, j, none⟩).isSome = true
 fr : ∀ j, j < cap → W.frozen? ⟨g, j, none⟩ = false
theorem Bs.below {g n cap : Nat} {f : Nat → Value} {W W' : World} (k : Bs g n cap f W) (hb : Below W.heap.size W W') : Bs g n cap f W' :=
 ⟨Nat.lt_of_lt_of_le k.z hb.size, k.nc, fun j hj => (hb.cell (p := ⟨g, j, none⟩) k.z).trans (k.c j hj), fun j hj => by rw [hb.cell (p := ⟨g, j, none⟩) k.z]; exact k.s j hj, fun j hj => (hb.frozen (p := ⟨g, j, none⟩) k.z).trans (k.fr j hj)⟩
theorem Bs.ext {g n cap : Nat} {f h : Nat → Value} {W : World} (k : Bs g n cap f W) (e : ∀ j, j < n → f j = h j) : Bs g n cap h W := ⟨k.z, k.nc, fun j hj => by rw [← e j hj]; exact k.c j hj, k.s, k.fr⟩
theorem jbc {g : Nat} : ∀ (vs : List Value) (o : Nat) (W : World), W.grownBy (W.setCells g o vs) (some g)
 | [], _, W => ⟨rfl, rfl, rfl, Nat.le_refl _, fun _ _ _ => rfl⟩
 | v :: r, o, W => by
  have h := jbc (g := g) r (o + 1) (W.setCell ⟨g, o, none⟩ v)
  rw [World.setCells]
  refine ⟨h.os.trans rfl, h.tape.trans rfl, h.output.trans rfl, Nat.le_trans (by simp [go_sem]) h.size, fun k hk hne => (h.block k (by simpa [go_sem] using hk) hne).trans ?_⟩
  have hne' : g ≠ k := fun e => hne (by rw [e])
  simp [World.setCell, Array.getElem?_modify, hne']
theorem run_append_bs {P : Program} {W : World} (t ty e : TypeId) (i : TypeInfo) (z : Value) (ht : P.underlying t = some (.slice e)) (hi : P.info? e = some i) (hz : i.zero = some z) (h1 : i.size = 1) (hby : i.bytes ≤ 64) (hzc : z.cells.size = 1)
  (g n cap : Nat) (f : Nat → Value) (BB : Bs g n cap f W) (ad : Addr) (m c : Nat) (news : List Value) (hl : news.length = m) (hnews : ∀ j v, news[j]? = some v → W.cell? (ad.add j) = some v) (hone : ∀ u ∈ news, u.oneCell' = true)
  (hf : ∀ j u, news[j]? = some u → u = f (n + j)) (hsm : n + m ≤ 1000000) :
  ∃ g' cap' W', (Builtin.append_ #[t, t] ty #[.slice (some ⟨g, 0, none⟩) n cap, .slice (some ad) m c]).run P W = .ok (.slice (some ⟨g', 0, none⟩) (n + m) cap') W' ∧ Bs g' (n + m) cap' f W' ∧ (g' = g ∨ W.heap.size ≤ g') ∧ W.grownBy W' (some g) := by
 by_cases hroom : n + m ≤ cap
 ·refine ⟨g, cap, W.setCells g n news, ?_, ?_, .inl rfl, jbc _ _ _⟩
  ·have hfc := run_firstCells_some (P := P) W i.size m ad m c news (by rw [h1, Nat.mul_one]; exact hl) hnews
   rw [h1] at hfc
   have hst := run_storeCells_cells (P := P) g n news 0 W (fun j hj => BB.s _ (by omega)) (fun j hj => BB.fr _ (by omega)) hone
   simp only [Nat.add_zero] at hst
   simp [Builtin.append_, run_underlying ht, sizeOf, typeInfo, hi, Builtin.lenOf, hroom, hfc, Addr.add_lit, h1, hst]
  ·refine ⟨by rw [jbv]; exact BB.z, hroom, fun j hj => ?_, fun j hj => ?_, fun j hj => by rw [World.frozen?_setCells]; exact BB.fr j hj⟩
   ·by_cases hjn : j < n
    ·rw [World.cell?_setCells_out g news n W ⟨g, j, none⟩ (fun _ _ => .inl hjn)]
     exact BB.c j hjn
    ·have hin := World.cell?_setCells_in g news n W (fun k hk => BB.s _ (by omega)) (j - n) (by omega)
     rw [show n + (j - n) = j by omega] at hin
     rw [hin]
     have := hf (j - n) (news[j - n]'(by omega)) (by simp)
     rw [show n + (j - n) = j by omega] at this
     rw [← this]
   ·by_cases hjn : j < n ∨ n + m ≤ j
    ·rw [World.cell?_setCells_out g news n W ⟨g, j, none⟩ (fun _ _ => by dsimp only; omega)]
     exact BB.s j hj
    ·have hin := World.cell?_setCells_in g news n W (fun k hk => BB.s _ (by omega)) (j - n) (by omega)
     rw [show n + (j - n) = j by omega] at hin
     rw [hin]
     rfl
 ·have holds : ∀ j v, (fl n f)[j]? = some v → W.cell? ((⟨g, 0, none⟩ : Addr).add j) = some v := fun j v hj => by
   obtain ⟨hj2, rfl⟩ := fl_get n f j v hj
   rw [Addr.add_mid, Nat.zero_add]
   exact BB.c j hj2
  have hr := run_append_grow (P := P) W t ty e i z ht hi hz ⟨g, 0, none⟩ n cap (fl n f) (by rw [h1, Nat.mul_one]; exact jcb _ _) holds ad m c news (by rw [h1, Nat.mul_one]; exact hl) hnews (by omega) (by omega) (growslice_fits (by omega) (by
   have : (n + m) * i.bytes ≤ 1000000 * 64 := Nat.mul_le_mul hsm hby
   omega))
  have hge := grownCap_ge W (n + m) cap e
  refine ⟨_, _, _, hr, ?_, .inr (Nat.le_refl _), ⟨rfl, rfl, rfl, by simp, fun k hk _ => Below.heap_alloc W.drew _ k hk⟩⟩
  have hcell : ∀ j, (W.drew.alloc (.cells ((fl n f).toArray ++ news.toArray ++ Builtin.zeroCells z.cells (grownCap W (n + m) cap e - (n + m))) e)).cell? ⟨W.heap.size, j, none⟩ = ((fl n f).toArray ++ news.toArray ++ Builtin.zeroCells z.cells (grownCap W (n + m) cap e - (n + m)))[j]? := fun j => by
   exact cell_of_row _ W.heap.size j _ e (0, 0) (heap_alloc_last W.drew _)
  have hsz : ((fl n f).toArray ++ news.toArray ++ Builtin.zeroCells z.cells (grownCap W (n + m) cap e - (n + m))).size = grownCap W (n + m) cap e := by
   simp only [Array.size_append, List.size_toArray, size_zeroCells, hzc, jcb, hl]
   omega
  refine ⟨by simp, hge, fun j hj => ?_, fun j hj => ?_, fun j hj => ?_⟩
  ·rw [hcell, Array.getElem?_append_left (by simp [jcb, hl]; omega)]
   by_cases hjn : j < n
   ·rw [Array.getElem?_append_left (by simp [jcb]; omega)]
    simpa using fl_at n f j hjn
   ·rw [Array.getElem?_append_right (by simp [jcb]; omega)]
    have hlt : j - n < news.length := by omega
    have := hf (j - n) (news[j - n]'hlt) (by simp)
    rw [show n + (j - n) = j by omega] at this
    rw [← this]
    simp [jcb, hlt]
  ·rw [hcell, Array.getElem?_eq_getElem (by rw [hsz]; exact hj)]
   rfl
  ·have hh : (W.drew.alloc (.cells ((fl n f).toArray ++ news.toArray ++ Builtin.zeroCells z.cells (grownCap W (n + m) cap e - (n + m))) e)).heap[W.heap.size]? = some (.cells ((fl n f).toArray ++ news.toArray ++ Builtin.zeroCells z.cells (grownCap W (n + m) cap e - (n + m))) e (0, 0)) := heap_alloc_last W.drew _
   simp only [World.frozen?, hh]
   simp
theorem jdc {P : Program} {W : World} {ops : Array Oper} {rest : List Oper} {o : Oper} {a : Act} {Q : Exit → Act → World → Prop} (hgd : o.guard = none) (s x : Operand) (t : TypeId)
  (hop : o.op = .call { callee := .builtin .append, args := #[s, x], argTypes := #[t, t] })
  (e : TypeId) (i : TypeInfo) (z : Value) (ht : P.underlying t = some (.slice e)) (hi : P.info? e = some i) (hz : i.zero = some z) (h1 : i.size = 1) (hby : i.bytes ≤ 64) (hzc : z.cells.size = 1)
  (g n cap : Nat) (f : Nat → Value) (hs : a.eval s = .slice (some ⟨g, 0, none⟩) n cap) (BB : Bs g n cap f W) (ad : Addr) (m c : Nat) (news : List Value) (hx : a.eval x = .slice (some ad) m c) (hl : news.length = m)
  (hnews : ∀ j v, news[j]? = some v → W.cell? (ad.add j) = some v) (hone : ∀ u ∈ news, u.oneCell' = true) (hf : ∀ j u, news[j]? = some u → u = f (n + j)) (hsm : n + m ≤ 1000000)
  (h : ∀ g' cap' W', Bs g' (n + m) cap' f W' → (g' = g ∨ W.heap.size ≤ g') → W.grownBy W' (some g) → wpList P ops Q rest (a.put o.dst (.slice (some ⟨g', 0, none⟩) (n + m) cap')) W') : wpList P ops Q (o :: rest) a W := by
 refine wpList_plain hgd fun _ hK => ?_
 obtain ⟨g', cap', W', hr, b1, b2, b3⟩ := run_append_bs (P := P) (W := W) t o.type e i z ht hi hz h1 hby hzc g n cap f BB ad m c news hl hnews hone hf hsm
 unfold Oper.wp execOp
 simp only [hop, resolve, invoke, builtin, Sem.run_bind, Sem.run_pure, Result.andThen_ok, List.map_toArray, List.map_cons, List.map_nil, hs, hx, hr]
 exact hK _ _ (h g' cap' W' b1 b2 b3)
end Go.Proofs.YtoddangedbefgabGreatDoor
