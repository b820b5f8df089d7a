/- Lemmas: The walk of SignOnes. No condition. -/
import Derived.Test.YtgefjmpnpebfoabDoorM1
import Derived.Test.YtgefjmpnpebfoabDoorM10
import Derived.Test.YtgefjmpnpebfoabDoorM11
import Derived.Test.YtgefjmpnpebfoabDoorM12
import Derived.Test.YtgefjmpnpebfoabDoorM13
import Derived.Test.YtgefjmpnpebfoabDoorM14
import Derived.Test.YtgefjmpnpebfoabDoorM15
import Derived.Test.YtgefjmpnpebfoabDoorM16
import Derived.Test.YtgefjmpnpebfoabDoorM17
import Derived.Test.YtgefjmpnpebfoabDoorM18
import Derived.Test.YtgefjmpnpebfoabDoorM19
import Derived.Test.YtgefjmpnpebfoabDoorM2
import Derived.Test.YtgefjmpnpebfoabDoorM20
import Derived.Test.YtgefjmpnpebfoabDoorM21
import Derived.Test.YtgefjmpnpebfoabDoorM22
import Derived.Test.YtgefjmpnpebfoabDoorM23
import Derived.Test.YtgefjmpnpebfoabDoorM24
import Derived.Test.YtgefjmpnpebfoabDoorM25
import Derived.Test.YtgefjmpnpebfoabDoorM26
import Derived.Test.YtgefjmpnpebfoabDoorM27
import Derived.Test.YtgefjmpnpebfoabDoorM28
import Derived.Test.YtgefjmpnpebfoabDoorM3
import Derived.Test.YtgefjmpnpebfoabDoorM4
import Derived.Test.YtgefjmpnpebfoabDoorM5
import Derived.Test.YtgefjmpnpebfoabDoorM6
import Derived.Test.YtgefjmpnpebfoabDoorM7
import Derived.Test.YtgefjmpnpebfoabDoorM8
import Derived.Test.YtgefjmpnpebfoabDoorM9
import Derived.Test.YtgefjmpnpebfoabDoorRows
namespace Go.Proofs.YtgefjmpnpebfoabDoor
open Go.RowKit Go.Shelf Go.Sort

theorem info_str8 : (Tryd.prog.info? 9).map (fun i => (i.zero, i.size, i.bytes)) = some (some (.string ⟨#[]⟩), 1, 16) := by kernel_rfl
theorem wpList_append_ran {P : Program} {w : World} {ops : Array Oper} {rest : List Oper} {o : Oper} {a : Act} {Q : Exit → Act → World → Prop} (hgd : o.guard = none) (sl x : Operand) (t u : TypeId)
    (ho : o.op = .call { callee := .builtin .append, args := #[sl, x], argTypes := #[t, u] }) (v y v' : Value) (w' : World) (hs : a.eval sl = v) (hx : a.eval x = y)
    (hr : (Builtin.append_ #[t, u] o.type #[v, y]).run P w = .ok v' w') (h : wpList P ops Q rest (a.put o.dst v') w') : wpList P ops Q (o :: rest) a w := by
  refine wpList_plain hgd fun K hK => ?_
  unfold Oper.wp execOp
  simp only [ho, resolve, invoke, builtin, Sem.run_bind, Sem.run_pure, Result.andThen_ok, List.map_toArray, List.map_cons, List.map_nil, hs, hx, hr]
  exact hK _ _ h
theorem owns_cap {W : World} {z e n m c : Nat} {a : Option Addr} {xs : List Value} (h : W.ownsRow z e 1 (.slice a m c) n xs) : m ≤ c := by
  rcases h.2 with ⟨h1, _⟩ | ⟨g, cap, cur, h1, _, _, h4, _⟩
  · cases h1; exact Nat.le_refl _
  · cases h1; exact h4
theorem owns_slice {W : World} {z e n : Nat} {v : Value} {xs : List Value} (h : W.ownsRow z e 1 v n xs) : ∃ a c, v = .slice a n c := by
  rcases h.2 with ⟨h1, h2⟩ | ⟨g, c, cur, h1, _⟩
  · exact ⟨none, 0, by rw [h1, h2]⟩
  · exact ⟨_, c, h1⟩
/-- Nothing behind a slice leaves it. -/
theorem run_append_zero {P : Program} (w : World) (t ty e : TypeId) (i : TypeInfo) (ht : P.underlying t = some (.slice e)) (hi : P.info? e = some i) (b : Option Addr) (n c : Nat) (hc : n ≤ c) (a' : Option Addr) (c' : Nat) :
    (Builtin.append_ #[t, t] ty #[.slice b n c, .slice a' 0 c']).run P w = .ok (.slice b n c) w := by
  have hroom : ¬ c < n := Nat.not_lt.2 hc
  cases a' with
  | none => cases b <;> simp [Builtin.append_, run_underlying ht, sizeOf, typeInfo, hi, Builtin.lenOf, Builtin.firstCells, hroom, storeCells]
  | some a' => cases b <;> simp [Builtin.append_, run_underlying ht, sizeOf, typeInfo, hi, Builtin.lenOf, Builtin.firstCells, hroom, storeCells, loadCells, loadCellsFrom]
/-- A list of texts behind a row of texts. -/
theorem wpList_append_list {ops : Array Oper} {rest : List Oper} {o : Oper} {act : Act} {Q : Exit → Act → World → Prop} {W : World} (hgd : o.guard = none) (s x : Operand) (ho : o.op = .call { callee := .builtin .append, args := #[s, x], argTypes := #[22, 22] })
    (z : Nat) (v : Value) (hv : act.eval s = v) (k : Nat) (ys : List Value) (hown : W.ownsRow z 9 1 v k ys) (xs : List ByteArray) (a : Option Addr) (m c : Nat) (hm : xs.length = m) (hx : act.eval x = .slice a m c) (hs : txS xs a W) (hk : k ≤ 1000000) (hl : m ≤ 1000000) (hz : z ≤ W.heap.size)
    (hK : ∀ v' w', w'.ownsRow z 9 1 v' (k + m) (ys ++ xs.map .string) → W.grownBy w' v.ownBlock → wpList Tryd.prog ops Q rest (act.put o.dst v') w') : wpList Tryd.prog ops Q (o :: rest) act W := by
  obtain ⟨i0, hi0, hz0, hz1, hz2⟩ := info_parts info_str8
  subst hm
  rcases hs with e | ⟨b, off, rfl, hb, hcl⟩
  · subst e
    obtain ⟨a1, c1, rfl⟩ := owns_slice hown
    refine wpList_append_ran hgd s x 22 22 ho _ _ _ _ hv hx (run_append_zero W 22 o.type 9 i0 Tryd.underlying22 hi0 a1 k c1 (owns_cap hown) a c) ?_
    exact hK _ _ (by rw [List.map_nil, List.append_nil]; exact hown) ⟨rfl, rfl, rfl, Nat.le_refl _, fun _ _ _ => rfl⟩
  · refine wpList_append_own _ hgd s x 22 ho z 9 i0 (.string ⟨#[]⟩) 1 16 Tryd.underlying22 hi0 hz0 hz1 hz2 rfl (by decide) v k ys hv hown ⟨b, off, none⟩ xs.length c (xs.map .string) hx (by rw [List.length_map, Nat.mul_one]) (fun j u hu => ?_) (fun u hu => ?_) (by unfold maxLen; omega) (by omega) hz ?_
    · rw [Addr.add_mid]
      rw [List.getElem?_map] at hu
      cases hxj : xs[j]? with
      | none => rw [hxj] at hu; cases hu
      | some y =>
        rw [hxj] at hu
        cases hu
        exact hcl j y hxj
    · obtain ⟨y, _, rfl⟩ := List.mem_map.1 hu
      rfl
    · intro v' w' h1 h2 _
      exact hK v' w' h1 h2
theorem txS.take {l : List ByteArray} {a : Option Addr} {W : World} (h : txS l a W) (k : Nat) : txS (l.take k) a W := by
  rcases h with h | ⟨B, o, e, hB, hc⟩
  · exact .inl (by rw [h, List.take_nil])
  · exact .inr ⟨B, o, e, hB, fun j x hx => hc j x (by
      rw [List.getElem?_take] at hx
      split at hx
      · exact hx
      · cases hx)⟩
theorem one_tx (w : World) (s : ByteArray) : txS [s] (some ⟨w.heap.size, 0, none⟩) (w.alloc (.cells #[.string s] 9)) := .inr ⟨_, 0, rfl, by simp, fun j x hx => by
  match j, hx with
  | 0, hx => cases hx; simp [go_sem]⟩
theorem owns_tx {W : World} {z n : Nat} {v : Value} {xs : List ByteArray} (h : W.ownsRow z 9 1 v n (xs.map .string)) : ∃ a c, v = .slice a n c ∧ txS xs a W := by
  rcases h.2 with ⟨h1, h2⟩ | ⟨g, c, cur, h1, _⟩
  · subst h1
    have h0 := h.1
    refine ⟨none, 0, by rw [h2], .inl ?_⟩
    rw [List.length_map, h2] at h0
    exact List.length_eq_zero_iff.1 (by omega)
  · refine ⟨_, c, h1, ?_⟩
    have hg : v.ownBlock = some g := by rw [h1]; rfl
    refine .inr ⟨g, 0, rfl, (h.lt g hg).2, fun j x hx => ?_⟩
    have := h.cells hg j (.string x) (by rw [List.getElem?_map, hx]; rfl)
    rw [Addr.add_mid] at this
    exact this
theorem su_one (s : ByteArray) : suV [s] = if frB s = true then .tuple #[.string s, .int .i64 0] else err100 := by
  unfold suV
  show (match toE iN [elN false s] with | some p => bytV p | none => err100) = _
  cases hf : frB s
  · have e1 : (elN false s).val = none := by unfold elN; rw [dif_neg (fun h => by rw [hf] at h; cases h.1)]
    simp only [toE, e1]
    rfl
  · have e1 : (elN false s).val = some (nmN s) := by unfold elN; rw [dif_pos ⟨hf, fun h => by cases h.1⟩]
    simp only [toE, e1, sm_inf]
    rw [if_pos trivial, byt_gr (fr_gr hf)]
    have hf2 := hf
    unfold frB at hf2
    simp only [Bool.and_eq_true, decide_eq_true_eq] at hf2
    show Value.tuple #[.string (txF (fsN (nmN s)) (nmN s).X), .int .i64 0] = _
    rw [hf2.2]
theorem su_nil : suV [] = .tuple #[.string ⟨#[0, 0, 0, 0, 0]⟩, .int .i64 0] := by
  show bytV iN = _
  rw [byt_gr gr_inf]
  rfl
theorem su_bad (l : List ByteArray) (s : ByteArray) (h : frB s = false) : suV (l ++ [s]) = err100 := by
  unfold suV
  have e : toE iN (elsT false (l ++ [s])) = none := by
    unfold elsT
    rw [List.map_append, toE_app]
    have e1 : (elN false s).val = none := by unfold elN; rw [dif_neg (fun h' => by rw [h] at h'; cases h'.1)]
    cases toE iN (l.map (elN false)) with
    | none => rfl
    | some q => show toE q [elN false s] = none; simp only [toE, e1]
  rw [e]
set_option maxRecDepth 20000 in
set_option maxHeartbeats 4000000 in
theorem sones_any (s : ByteArray) (l : List ByteArray) (a : Option Addr) (c : Nat) (w : World) (hL : Ls w) (hT : txS l a w) (hc : l.length ≤ c) :
    Calls Tryd.prog 3 #[.string s, .slice a l.length c] w fun e w' => e = .returned (.bool true) ∧ Below w.heap.size w w' := by
  have CS := shown12_any
  obtain ⟨N, hN⟩ : ∃ N, l.length = N := ⟨_, rfl⟩
  have HN : Hid (l.length = N) := hN
  rw [hN] at hc ⊢
  have hmin : min (N : Int) 20 = ((min N 20 : Nat) : Int) := by omega
  have hkc : min N 20 ≤ c := by omega
  have C1 := fun g => sum12_any [s] (by simp) (some ⟨g, 0, none⟩) 1
  have C2 := sum12_any [] (by simp) none 0
  have C3 : ∀ a c W, txS (l.take 20 ++ [s]) a W → Ls W → _ := fun a c W h1 h2 => sum12_any (l.take 20 ++ [s]) (by rw [List.length_append, List.length_take]; simp; omega) a c W h1 h2
  rw [su_one] at C1
  rw [su_nil] at C2
  have hk : (l.take 20 ++ [s]).length = min N 20 + 1 := by rw [List.length_append, List.length_take, hN, Nat.min_comm]; rfl
  rw [hk] at C3
  obtain ⟨x, b, e1⟩ : ∃ x b, suV (l.take 20 ++ [s]) = .tuple #[.string x, .int .i64 b] := by unfold suV bytV; split <;> (try split) <;> exact ⟨_, _, rfl⟩
  have hbad : frB s = false → b = 100 := fun h => by rw [su_bad _ _ h] at e1; simp at e1; exact e1.2.symm
  rw [e1] at C3
  obtain ⟨y, f, e2⟩ : ∃ y f, (if frB s = true then Value.tuple #[.string s, .int .i64 0] else err100) = .tuple #[.string y, .int .i64 f] := by split <;> exact ⟨_, _, rfl⟩
  have hgood : frB s = true → y = s ∧ f = 0 := fun h => by rw [if_pos h] at e2; simp at e2; exact ⟨e2.1.symm, e2.2.symm⟩
  have hbad2 : frB s = false → y = ⟨#[]⟩ ∧ f = 100 := fun h => by rw [if_neg (by rw [h]; simp)] at e2; simp at e2; exact ⟨e2.1.symm, e2.2.symm⟩
  rw [e2] at C1
  have HT : Hid (txS l a w ∧ l.length = N) := ⟨hT, hN⟩
  have HF : Hid (_ ∧ _ ∧ _) := ⟨hbad, hgood, hbad2⟩
  clear e1 e2 hT hN hk hbad hgood hbad2
  go_enter Tryd.func3, Tryd.ntmps3
  go_wp2_with fail
  refine (CS _ hL).mono ?_
  rintro e w1 ⟨rfl, B1⟩
  have L1 := hL.below B1
  have AL : Below w1.heap.size w1 (w1.alloc (.cells #[.string s] 9)) := (Below.refl _ _).alloc (Nat.le_refl _) _
  have BW2 := belowStep B1 B1.size AL
  have L2' := L1.below AL
  have X2 : txS [s] (some ⟨w1.heap.size, 0, none⟩) (w1.alloc (.cells #[.string s] 9)) := .inr ⟨_, 0, rfl, by simp, fun j x hx => by
    match j, hx with
    | 0, hx => cases hx; simp [go_sem]⟩
  have H2 : Hid (_ ∧ _ ∧ _) := ⟨BW2, L2', X2⟩
  clear AL BW2 L2' X2 B1 L1 CS
  go_wp2_with fail
  refine (C1 _ _ H2.out.2.2 H2.out.2.1).mono ?_
  rintro e w3 ⟨rfl, B3⟩
  have BW3 := belowStep H2.out.1 H2.out.1.size B3
  have L3' := H2.out.2.1.below B3
  clear H2 B3 C1
  go_wp2_with fail
  refine (C2 _ (.inl rfl) L3').mono ?_
  rintro e w4 ⟨rfl, B4⟩
  have BW4 := belowStep BW3 BW3.size B4
  have L4' := L3'.below B4
  clear BW3 L3' B4 C2
  obtain ⟨i0, hi0, hz0, hz1, hz2⟩ := info_parts info_str8
  obtain ⟨M, hM⟩ : ∃ M, min N 20 = M := ⟨_, rfl⟩
  have hM20 : M ≤ 20 := by omega
  have hM1 : IntKind.i64.wrap ((M : Int) + 1) = ((M + 1 : Nat) : Int) := by rw [IntKind.wrap_i64]; omega
  have HM : Hid (min N 20 = M) := hM
  rw [hM] at C3 hkc hmin ⊢
  clear hM
  have TL : txS (l.take 20) a w := HT.out.1.take 20
  have hlm : (l.take 20).length = M := by rw [List.length_take, HT.out.2, Nat.min_comm]; exact HM.out
  have HB4 : Hid (Below w.heap.size w w4 ∧ txS (l.take 20) a w) := ⟨BW4, TL⟩
  clear TL BW4
  go_wp2_with (first
    | (at_make; refine wpList_make_own _ rfl _ _ 22 rfl w4.heap.size 9 i0 (.string ⟨#[]⟩) 1 Tryd.underlying22 hi0 hz0 hz1 .i64 .i64 _ (M + 1) rfl rfl (by omega) (by rw [hz2]; omega) (by unfold maxLen; omega) (Nat.le_refl _) ?_; intro w5 hown hgr;
       replace hown : w5.ownsRow w4.heap.size 9 1 (.slice (some ⟨w4.heap.size, 0, none⟩) 0 (M + 1)) 0 [] := (by simpa using hown);
       have B5 : Below w4.heap.size w4 w5 := (Below.refl _ w4).grown hgr (Nat.le_refl _) (fun _ e => (by cases e));
       clear hgr)
    | (at_builtin; refine wpList_append_list rfl _ _ rfl w4.heap.size _ rfl 0 [] hown (l.take 20) a M c hlm rfl (HB4.out.2.below (belowStep HB4.out.1 HB4.out.1.size B5)) (by omega) (by omega) B5.size ?_; intro v6 w6 hown6 hgr6)
    | (at_builtin; refine wpList_append_list rfl _ _ rfl w4.heap.size _ rfl (0 + M) _ (hown6.alloc _) [s] (some ⟨w6.heap.size, 0, none⟩) 1 1 rfl rfl (one_tx w6 s) (by omega) (by omega) (Nat.le_trans B5.size (Nat.le_trans hgr6.size (by simp))) ?_; intro v7 w7 hown7 hgr7))
  have B6 : Below w4.heap.size w4 w6 := B5.grown hgr6 B5.size (fun k e => (hown.lt k e).1)
  have B6' := B6.alloc B6.size (.cells #[.string s] 9)
  have B7 : Below w4.heap.size w4 w7 := B6'.grown hgr7 B6'.size (fun k e => (hown6.lt k e).1)
  have h7 : w7.ownsRow w4.heap.size 9 1 v7 (M + 1) ((l.take 20 ++ [s]).map .string) := by
    have := hown7
    rw [List.nil_append, Nat.zero_add] at this
    rw [List.map_append]
    exact this
  obtain ⟨a7, c7, e7, X7⟩ := owns_tx h7
  have BW7 := belowStep HB4.out.1 HB4.out.1.size B7
  have L7' := L4'.below B7
  clear hown hown6 hown7 hgr6 hgr7 h7 B5 B6 B6' B7 HB4 L4'
  subst e7
  refine (C3 a7 c7 w7 X7 L7').mono ?_
  rintro e w8 ⟨rfl, B8⟩
  have BW8 := belowStep BW7 BW7.size B8
  clear BW7 L7' X7 B8 C3
  obtain ⟨hb1, hg1, hb2⟩ := HF.out
  cases hf : frB s
  · obtain ⟨h1, h2⟩ := hb2 hf
    have h3 := hb1 hf
    subst h1 h2 h3
    clear HF hb1 hg1 hb2
    go_wp2_with fail
    go_ret
    exact ⟨by simp, BW8⟩
  · obtain ⟨h1, h2⟩ := hg1 hf
    subst h1 h2
    clear HF hb1 hg1 hb2
    go_wp2_with fail
    go_ret
    exact ⟨by simp, BW8⟩
end Go.Proofs.YtgefjmpnpebfoabDoor
