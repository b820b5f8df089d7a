/- Lemmas: Clash.  -/
import Derived.Test.YtbmapdkcccdmfabDoorM1
import Derived.Test.YtbmapdkcccdmfabDoorM10
import Derived.Test.YtbmapdkcccdmfabDoorM11
import Derived.Test.YtbmapdkcccdmfabDoorM12
import Derived.Test.YtbmapdkcccdmfabDoorM13
import Derived.Test.YtbmapdkcccdmfabDoorM14
import Derived.Test.YtbmapdkcccdmfabDoorM15
import Derived.Test.YtbmapdkcccdmfabDoorM16
import Derived.Test.YtbmapdkcccdmfabDoorM17
import Derived.Test.YtbmapdkcccdmfabDoorM18
import Derived.Test.YtbmapdkcccdmfabDoorM19
import Derived.Test.YtbmapdkcccdmfabDoorM2
import Derived.Test.YtbmapdkcccdmfabDoorM20
import Derived.Test.YtbmapdkcccdmfabDoorM21
import Derived.Test.YtbmapdkcccdmfabDoorM22
import Derived.Test.YtbmapdkcccdmfabDoorM23
import Derived.Test.YtbmapdkcccdmfabDoorM24
import Derived.Test.YtbmapdkcccdmfabDoorM25
import Derived.Test.YtbmapdkcccdmfabDoorM26
import Derived.Test.YtbmapdkcccdmfabDoorM29
import Derived.Test.YtbmapdkcccdmfabDoorM3
import Derived.Test.YtbmapdkcccdmfabDoorM30
import Derived.Test.YtbmapdkcccdmfabDoorM33
import Derived.Test.YtbmapdkcccdmfabDoorM34
import Derived.Test.YtbmapdkcccdmfabDoorM35
import Derived.Test.YtbmapdkcccdmfabDoorM36
import Derived.Test.YtbmapdkcccdmfabDoorM37
import Derived.Test.YtbmapdkcccdmfabDoorM38
import Derived.Test.YtbmapdkcccdmfabDoorM39
import Derived.Test.YtbmapdkcccdmfabDoorM4
import Derived.Test.YtbmapdkcccdmfabDoorM40
import Derived.Test.YtbmapdkcccdmfabDoorM41
import Derived.Test.YtbmapdkcccdmfabDoorM42
import Derived.Test.YtbmapdkcccdmfabDoorM43
import Derived.Test.YtbmapdkcccdmfabDoorM44
import Derived.Test.YtbmapdkcccdmfabDoorM45
import Derived.Test.YtbmapdkcccdmfabDoorM47
import Derived.Test.YtbmapdkcccdmfabDoorM48
import Derived.Test.YtbmapdkcccdmfabDoorM49
import Derived.Test.YtbmapdkcccdmfabDoorM5
import Derived.Test.YtbmapdkcccdmfabDoorM6
import Derived.Test.YtbmapdkcccdmfabDoorM7
import Derived.Test.YtbmapdkcccdmfabDoorM8
import Derived.Test.YtbmapdkcccdmfabDoorM9
import Derived.Test.YtbmapdkcccdmfabDoorRows
import Derived.Laws.StructEq
namespace Go.Proofs.YtbmapdkcccdmfabDoor
open Go.RowKit Go.Shelf Go.Sort

/-- Texts' digests, as cells. -/
def sumV (xs : List ByteArray) : List Value := (xs.map sumOf).map .string
/-- Have two unlike texts of some one digest? -/
def clB (xs : List ByteArray) : Bool := xs.any fun x => xs.any fun y => decide (x ≠ y ∧ sumOf x = sumOf y)
end Go.Proofs.YtbmapdkcccdmfabDoor
namespace Go.Proofs.YtbmapdkcccdmfabDoor
open Go.RowKit Go.Shelf Go.Sort

theorem wpList_append_ran {P : Program} {w : World} {ops : Array Oper} {rest : List Oper} {o : Oper} {a : Act} {Q : Exit → Act → World → Prop} (hgd : o.guard = none) (sl x : Operand) (t u : TypeId)
    (ho : o.op = .call { callee := .builtin .append, args := #[sl, x], argTypes := #[t, u] }) (v y v' : Value) (w' : World) (hs : a.eval sl = v) (hx : a.eval x = y)
    (hr : (Builtin.append_ #[t, u] o.type #[v, y]).run P w = .ok v' w') (h : wpList P ops Q rest (a.put o.dst v') w') : wpList P ops Q (o :: rest) a w := by
  refine wpList_plain hgd fun K hK => ?_
  unfold Oper.wp execOp
  simp only [ho, resolve, invoke, builtin, Sem.run_bind, Sem.run_pure, Result.andThen_ok, List.map_toArray, List.map_cons, List.map_nil, hs, hx, hr]
  exact hK _ _ h
theorem owns_cap {W : World} {z e n m c : Nat} {a : Option Addr} {xs : List Value} (h : W.ownsRow z e 1 (.slice a m c) n xs) : m ≤ c := by
  rcases h.2 with ⟨h1, _⟩ | ⟨g, cap, cur, h1, _, _, h4, _⟩
  · cases h1; exact Nat.le_refl _
  · cases h1; exact h4
theorem owns_slice {W : World} {z e n : Nat} {v : Value} {xs : List Value} (h : W.ownsRow z e 1 v n xs) : ∃ a c, v = .slice a n c := by
  rcases h.2 with ⟨h1, h2⟩ | ⟨g, c, cur, h1, _⟩
  · exact ⟨none, 0, by rw [h1, h2]⟩
  · exact ⟨_, c, h1⟩
/-- Nothing behind a slice leaves it. -/
theorem run_append_zero {P : Program} (w : World) (t ty e : TypeId) (i : TypeInfo) (ht : P.underlying t = some (.slice e)) (hi : P.info? e = some i) (b : Option Addr) (n c : Nat) (hc : n ≤ c) (a' : Option Addr) (c' : Nat) :
    (Builtin.append_ #[t, t] ty #[.slice b n c, .slice a' 0 c']).run P w = .ok (.slice b n c) w := by
  have hroom : ¬ c < n := Nat.not_lt.2 hc
  cases a' with
  | none => cases b <;> simp [Builtin.append_, run_underlying ht, sizeOf, typeInfo, hi, Builtin.lenOf, Builtin.firstCells, hroom, storeCells]
  | some a' => cases b <;> simp [Builtin.append_, run_underlying ht, sizeOf, typeInfo, hi, Builtin.lenOf, Builtin.firstCells, hroom, storeCells, loadCells, loadCellsFrom]
/-- A list of texts behind a row of texts. -/
theorem wpList_append_list {ops : Array Oper} {rest : List Oper} {o : Oper} {act : Act} {Q : Exit → Act → World → Prop} {W : World} (hgd : o.guard = none) (s x : Operand) (ho : o.op = .call { callee := .builtin .append, args := #[s, x], argTypes := #[22, 22] })
    (z : Nat) (v : Value) (hv : act.eval s = v) (k : Nat) (ys : List Value) (hown : W.ownsRow z 9 1 v k ys) (xs : List ByteArray) (a : Option Addr) (m c n : Nat) (hm : xs.length = m) (hx : act.eval x = .slice a m c) (hs : slS n W a xs) (hk : k ≤ 1000000) (hl : m ≤ 1000000) (hz : z ≤ W.heap.size)
    (hK : ∀ v' w', w'.ownsRow z 9 1 v' (k + m) (ys ++ xs.map .string) → W.grownBy w' v.ownBlock → wpList Tryd.prog ops Q rest (act.put o.dst v') w') : wpList Tryd.prog ops Q (o :: rest) act W := by
  obtain ⟨i0, hi0, hz0, hz1, hz2⟩ := info_parts info_text
  subst hm
  rcases hs with e | ⟨b, off, rfl, hb, hcl⟩
  · subst e
    obtain ⟨a1, c1, rfl⟩ := owns_slice hown
    refine wpList_append_ran hgd s x 22 22 ho _ _ _ _ hv hx (run_append_zero W 22 o.type 9 i0 Tryd.underlying22 hi0 a1 k c1 (owns_cap hown) a c) ?_
    exact hK _ _ (by rw [List.map_nil, List.append_nil]; exact hown) ⟨rfl, rfl, rfl, Nat.le_refl _, fun _ _ _ => rfl⟩
  · refine wpList_append_own _ hgd s x 22 ho z 9 i0 (.string ⟨#[]⟩) 1 16 Tryd.underlying22 hi0 hz0 hz1 hz2 rfl (by decide) v k ys hv hown ⟨b, off, none⟩ xs.length c (xs.map .string) hx (by rw [List.length_map, Nat.mul_one]) (fun j u hu => ?_) (fun u hu => ?_) (by unfold maxLen; omega) (by omega) hz ?_
    · rw [Addr.add_mid]
      rw [List.getElem?_map] at hu
      cases hxj : xs[j]? with
      | none => rw [hxj] at hu; cases hu
      | some y =>
        rw [hxj] at hu
        cases hu
        exact hcl j y hxj
    · obtain ⟨y, _, rfl⟩ := List.mem_map.1 hu
      rfl
    · intro v' w' h1 h2 _
      exact hK v' w' h1 h2
theorem own_text (w : World) (s : ByteArray) : (w.alloc (.cells #[.string s] 9)).ownsRow w.heap.size 9 1 (.slice (some ⟨w.heap.size, 0, none⟩) 1 1) 1 [.string s] :=
  ⟨rfl, .inr ⟨_, 1, #[.string s], rfl, Nat.le_refl _, World.alloc_heap_new w _, Nat.le_refl _, by decide, rfl, rfl⟩⟩
mutual
theorem allN_small : ∀ (n : Nd) (t : ByteArray), t ∈ allN n → t.size ≤ 65536
  | .mk x ss, t, h => by
    rcases List.mem_append.1 (show t ∈ ownT x ++ allS ss from h) with h | h
    · unfold ownT at h
      split at h
      · cases h
      · rw [List.mem_singleton.1 h]
        exact eS_size x
    · exact allS_small ss t h
theorem allS_small : ∀ (ss : Sts) (t : ByteArray), t ∈ allS ss → t.size ≤ 65536
  | .nil, t, h => by cases h
  | .cons p n r, t, h => by
    rcases List.mem_append.1 (show t ∈ allN n ++ allS r from h) with h | h
    · exact allN_small n t h
    · exact allS_small r t h
end
theorem td_small (es : List Pr) : ∀ t ∈ tdS true nodesL es, t.size ≤ 65536 := fun t ht => by
  have h : t ∈ wyL nodesL (srt es) := ht
  unfold wyL at h
  split at h
  · cases h
  · unfold nodesL at h
    rcases List.mem_cons.1 h with rfl | h
    · exact eS_size _
    · exact allS_small _ t h
theorem lit_grown {w x : World} {s : ByteArray} (h : (w.alloc (.cells #[.string s] 9)).grownBy x (some w.heap.size)) : Below w.heap.size w x :=
  ((Below.refl _ w).alloc (Nat.le_refl _) _).grown h (by simp) (fun k e => by cases e; exact Nat.le_refl _)
theorem slP_take {n : Nat} {W : World} {a : Option Addr} {es : List Pr} (h : slP n W a es) (k : Nat) : slP n W a (es.take k) := by
  rcases h with h | ⟨b, o, h1, h2, h3⟩
  · exact .inl (by rw [h, List.take_nil])
  · refine .inr ⟨b, o, h1, h2, fun j e he => h3 j e ?_⟩
    rw [List.getElem?_take] at he
    split at he
    · exact he
    · cases he

end Go.Proofs.YtbmapdkcccdmfabDoor
