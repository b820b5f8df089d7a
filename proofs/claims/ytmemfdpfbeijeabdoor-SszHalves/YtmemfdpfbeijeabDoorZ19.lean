/- The reference's right, level, Root, Branch. -/
import Derived.Test.YtmemfdpfbeijeabDoorZ12
namespace Go.Proofs.YtmemfdpfbeijeabDoor
open Go.RowKit Go.Shelf Go.Sort

/-- Nothing behind a slice leaves it. -/
theorem run_append_zero {P : Program} (w : World) (t ty e : TypeId) (i : TypeInfo) (ht : P.underlying t = some (.slice e)) (hi : P.info? e = some i) (b : Option Addr) (n c : Nat) (hc : n ≤ c) (a' : Option Addr) (c' : Nat) :
    (Builtin.append_ #[t, t] ty #[.slice b n c, .slice a' 0 c']).run P w = .ok (.slice b n c) w := by
  have hroom : ¬ c < n := Nat.not_lt.2 hc
  cases a' with
  | none => cases b <;> simp [Builtin.append_, run_underlying ht, sizeOf, typeInfo, hi, Builtin.lenOf, Builtin.firstCells, hroom, storeCells]
  | some a' => cases b <;> simp [Builtin.append_, run_underlying ht, sizeOf, typeInfo, hi, Builtin.lenOf, Builtin.firstCells, hroom, storeCells, loadCells, loadCellsFrom]
/-- A list of texts behind a row of texts. -/
theorem wpList_append_list {ops : Array Oper} {rest : List Oper} {o : Oper} {act : Act} {Q : Exit → Act → World → Prop} {W : World} (hgd : o.guard = none) (s x : Operand) (ho : o.op = .call { callee := .builtin .append, args := #[s, x], argTypes := #[22, 22] })
    (z : Nat) (v : Value) (hv : act.eval s = v) (k : Nat) (ys : List Value) (hown : W.ownsRow z 9 1 v k ys) (xs : List ByteArray) (a : Option Addr) (m c n : Nat) (hm : xs.length = m) (hx : act.eval x = .slice a m c) (hs : slS n W a xs) (hk : k ≤ 1000000) (hl : m ≤ 1000000) (hz : z ≤ W.heap.size)
    (hK : ∀ v' w', w'.ownsRow z 9 1 v' (k + m) (ys ++ xs.map .string) → W.grownBy w' v.ownBlock → wpList Tryd.prog ops Q rest (act.put o.dst v') w') : wpList Tryd.prog ops Q (o :: rest) act W := by
  obtain ⟨i0, hi0, hz0, hz1, hz2⟩ := info_parts info_str8
  subst hm
  rcases hs with e | ⟨b, off, rfl, hb, hcl⟩
  · subst e
    obtain ⟨a1, c1, rfl⟩ := owns_slice hown
    refine wpList_append_ran hgd s x 22 22 ho _ _ _ _ hv hx (run_append_zero W 22 o.type 9 i0 Tryd.underlying22 hi0 a1 k c1 (owns_cap hown) a c) ?_
    exact hK _ _ (by rw [List.map_nil, List.append_nil]; exact hown) ⟨rfl, rfl, rfl, Nat.le_refl _, fun _ _ _ => rfl⟩
  · refine wpList_append_own _ hgd s x 22 ho z 9 i0 (.string ⟨#[]⟩) 1 16 Tryd.underlying22 hi0 hz0 hz1 hz2 rfl (by decide) v k ys hv hown ⟨b, off, none⟩ xs.length c (xs.map .string) hx (by rw [List.length_map, Nat.mul_one]) (fun j u hu => ?_) (fun u hu => ?_) (by unfold maxLen; omega) (by omega) hz ?_
    · rw [Addr.add_mid]
      rw [List.getElem?_map] at hu
      cases hxj : xs[j]? with
      | none => rw [hxj] at hu; cases hu
      | some y =>
        rw [hxj] at hu
        cases hu
        exact hcl j y hxj
    · obtain ⟨y, _, rfl⟩ := List.mem_map.1 hu
      rfl
    · intro v' w' h1 h2 _
      exact hK v' w' h1 h2
/-- A level, all of it. -/
def lvA (xs : List ByteArray) (D up : Nat) : List ByteArray := (List.range (2 ^ (D - up))).map (lf (lvs xs) up)
theorem slF_S {m : Nat} {W : World} {a : Option Addr} {xs : List ByteArray} (h : slF m W a xs) : slS W.heap.size W a xs := by
  rcases h with e | ⟨b, o, h1, _, h2, h3⟩
  · exact .inl e
  · exact .inr ⟨b, o, h1, h2, h3⟩
def LvR (m : Nat) (xs : List ByteArray) (D up : Nat) (e : Ending) (w' : World) : Prop := ∃ a' c', e = .returned (.slice a' (lvA xs D up).length c') ∧ slS w'.heap.size w' a' (lvA xs D up) ∧ slF m w' a' (lvA xs D up)
theorem lvA_len (xs : List ByteArray) (D up : Nat) : (lvA xs D up).length = 2 ^ (D - up) := by simp [lvA]
theorem lvA_at (xs : List ByteArray) (D up j : Nat) (h : j < 2 ^ (D - up)) : (lvA xs D up)[j]? = some (lf (lvs xs) up j) := by
  unfold lvA
  rw [List.getElem?_map, List.getElem?_range h]
  rfl
theorem lvA_0 (xs : List ByteArray) (D : Nat) (h : xs.length ≤ 2 ^ D) : lvA xs D 0 = xs ++ List.replicate (2 ^ D - xs.length) z32 := by
  refine List.ext_getElem? fun j => ?_
  by_cases hj : j < 2 ^ D
  · rw [lvA_at xs D 0 j hj]
    show some (lvs xs j) = _
    unfold lvs
    rw [List.getD_eq_getElem?_getD]
    by_cases h2 : j < xs.length
    · rw [List.getElem?_append_left h2, List.getElem?_eq_getElem h2]
      rfl
    · rw [List.getElem?_append_right (by omega), List.getElem?_eq_none (by omega), List.getElem?_replicate, if_pos (by omega)]
      rfl
  · rw [List.getElem?_eq_none (by rw [lvA_len]; exact Nat.le_of_not_lt hj), List.getElem?_eq_none (by rw [List.length_append, List.length_replicate]; omega)]

/-- What holds while a statement runs. -/
structure LvK (V : World) (b1 o1 M c4 p : Nat) (X1 X2 X3 : ByteArray) (u9 : Value) (S : Nat → Bool) (x36 x37 x38 x39 x40 x41 x42 x43 x44 x45 x46 x47 x48 : Value) (W : World) : Prop where
  e : Below V.heap.size V W
  f0 : S 0 = true → x36 = u9
  f1 : S 1 = true → x37 = Value.slice (some ⟨b1, o1, none⟩) M c4
  f2 : S 2 = true → x38 = Value.int .i64 (p : Int)
  f3 : S 3 = true → x39 = Value.pointer (some ⟨b1, o1 + p, none⟩)
  f4 : S 4 = true → x40 = Value.string X1
  f5 : S 5 = true → x41 = Value.slice (some ⟨b1, o1, none⟩) M c4
  f6 : S 6 = true → x42 = Value.int .i64 (p : Int)
  f7 : S 7 = true → x43 = Value.int .i64 ((p : Int) + 1)
  f8 : S 8 = true → x44 = Value.pointer (some ⟨b1, o1 + (p + 1), none⟩)
  f9 : S 9 = true → x45 = Value.string X2
  f10 : S 10 = true → x46 = Value.string (X1 ++ X2)
  f11 : S 11 = true → x47 = Value.string X3
  f12 : S 12 = true → ∃ g, x48 = .slice (some ⟨g, 0, none⟩) 1 1 ∧ V.heap.size ≤ g ∧ g < W.heap.size ∧ W.heap[g]? = some (.cells #[.string X3] 9 (0, 0))
theorem LvK.grow {V : World} {b1 o1 M c4 p : Nat} {X1 X2 X3 : ByteArray} {u9 : Value} {S : Nat → Bool} {x36 x37 x38 x39 x40 x41 x42 x43 x44 x45 x46 x47 x48 : Value} {W W' : World} (h : LvK V b1 o1 M c4 p X1 X2 X3 u9 S x36 x37 x38 x39 x40 x41 x42 x43 x44 x45 x46 x47 x48 W) (hb : Below W.heap.size W W') : LvK V b1 o1 M c4 p X1 X2 X3 u9 S x36 x37 x38 x39 x40 x41 x42 x43 x44 x45 x46 x47 x48 W' :=
  ⟨belowStep h.e h.e.size hb, h.f0, h.f1, h.f2, h.f3, h.f4, h.f5, h.f6, h.f7, h.f8, h.f9, h.f10, h.f11, fun s => (h.f12 s).imp fun _ ⟨j1, j0, j2, j3⟩ => ⟨j1, j0, Nat.lt_of_lt_of_le j2 hb.size, (hb.block _ j2).trans j3⟩⟩
end Go.Proofs.YtmemfdpfbeijeabDoor
