/- Lemmas: An item's bytes: what Encode answers. Condition: at most four million bytes in all. Items made anew: copied, List, Text. What bytes begin with: cutBody, cut. -/
import Derived.Test.YtmefanagpkbjeaaDoorM1
import Derived.Test.YtmefanagpkbjeaaDoorM10
import Derived.Test.YtmefanagpkbjeaaDoorM11
import Derived.Test.YtmefanagpkbjeaaDoorM12
import Derived.Test.YtmefanagpkbjeaaDoorM13
import Derived.Test.YtmefanagpkbjeaaDoorM2
import Derived.Test.YtmefanagpkbjeaaDoorM3
import Derived.Test.YtmefanagpkbjeaaDoorM6
import Derived.Test.YtmefanagpkbjeaaDoorM7
import Derived.Test.YtmefanagpkbjeaaDoorM8
import Derived.Test.YtmefanagpkbjeaaDoorM9
import Derived.Test.YtmefanagpkbjeaaDoorRows
import Derived.Lib.AppendStr
import Derived.Lib.OthersKept
import Derived.OwnWalk
import Derived.Deep.MidRow
import Derived.Deep.WholeRow
namespace Go.Proofs.YtmefanagpkbjeaaDoor
open Go.RowKit Go.Shelf Go.Sort
attribute [local go_sem] Oper.semAt_some

/-- A statement in the text's order, in a round of a loop over a function: it is walked as anywhere. -/
theorem list_round {P : Program} (l' n : Nat) {ops : Array Oper} {Q : Exit → Act → World → Prop} (hL : ¬ LetsOut Q) : ∀ (rest : List Oper), (∀ o, o ∈ rest → ∀ c, o.op ≠ .defer c) → ∀ (a : Act) (w : World), wpList P ops Q rest a w → wpListIn (Fence.wide.inRound l') n P ops Q rest a w
  | [], _, _, _, h => h
  | o :: rest, hd, a, w, h => by
    unfold wpList at h
    unfold wpListIn
    by_cases hw : Region.wanted o (yielded ops a.tmps) = true
    · simp only [hw, if_true] at h ⊢
      exact Oper.wpIn_mono (fun a' w' h' => list_round l' n hL rest (fun o ho => hd o (List.mem_cons_of_mem _ ho)) a' w' h') (op_round l' n (hd o (List.mem_cons_self ..)) (h.resolve_right fun x => hL x.2))
    · simp only [hw] at h ⊢
      exact ⟨fun _ _ => trivial, list_round l' n hL rest (fun o ho => hd o (List.mem_cons_of_mem _ ho)) _ w h⟩
theorem region_ord_in {P : Program} (l' n : Nat) {id : Nat} {Q : Exit → Act → World → Prop} {a : Act} {w : World} {l : List Oper} (hd : noDefer l.toArray = true) (hL : ¬ LetsOut Q) (h : wpList P l.toArray Q l a w) : (Code.region id l.toArray false).wpIn (Fence.wide.inRound l') n P Q a w :=
  wpIn_region_lit (list_round l' n hL l (fun o ho c hc => by
    have := List.all_eq_true.1 hd o (by simpa using ho)
    simp [hc] at this) a w h)

theorem strCells_app (a b : ByteArray) : Lib.strCells (a ++ b) = Lib.strCells a ++ Lib.strCells b := by
  unfold Lib.strCells
  simp
/-- Heads and texts, one behind the other. -/
def cat (l : List (Nat × Im)) : ByteArray := l.foldl (fun b e => b ++ hOf e.2 ++ e.2.t) ⟨#[]⟩
theorem cat_snoc (l : List (Nat × Im)) (e : Nat × Im) : cat (l ++ [e]) = cat l ++ hOf e.2 ++ e.2.t := by simp [cat, List.foldl_append]
theorem hdB_size (b s : Nat) (h : s < 1000000000000000000) : (hdB b s).size ≤ 9 := by
  unfold hdB
  have := blen_le s 8 (by omega)
  split
  · show 1 ≤ 9
    omega
  · rw [ByteArray.size_append, numOf, by8_size]
    show 1 + _ ≤ 9
    omega
mutual
theorem pro_tb : ∀ (d : Nat) (x : Im) (e : Nat × Im), e ∈ pro d x → tb e.2 ≤ tb x
  | d, .mk l t a c xs, e, h => by
    rcases List.mem_cons.1 (show e ∈ (d, Im.mk l t a c xs) :: pros (d + 1) xs from h) with rfl | h
    · exact Nat.le_refl _
    · have := pros_tb (d + 1) xs e h
      show _ ≤ t.size + 9 + tbs xs
      omega
theorem pros_tb : ∀ (d : Nat) (xs : List Im) (e : Nat × Im), e ∈ pros d xs → tb e.2 ≤ tbs xs
  | _, [], _, h => by cases h
  | d, x :: r, e, h => by
    rcases List.mem_append.1 (show e ∈ pro d x ++ pros d r from h) with h | h
    · have := pro_tb d x e h
      show _ ≤ tb x + tbs r
      omega
    · have := pros_tb d r e h
      show _ ≤ tb x + tbs r
      omega
end
mutual
theorem pro_mem {n : Nat} {W : World} : ∀ (d : Nat) (x : Im) (e : Nat × Im), inMem n W x → e ∈ pro d x → inMem n W e.2
  | d, .mk l t a c xs, e, hm, h => by
    rcases List.mem_cons.1 (show e ∈ (d, Im.mk l t a c xs) :: pros (d + 1) xs from h) with rfl | h
    · exact hm
    · exact pros_memm a 0 (d + 1) xs e hm h
theorem pros_memm {n : Nat} {W : World} (a : Option Addr) : ∀ (i d : Nat) (xs : List Im) (e : Nat × Im), rowMem n W a i xs → e ∈ pros d xs → inMem n W e.2
  | _, _, [], _, _, h => by cases h
  | i, d, x :: r, e, hm, h => by
    rcases List.mem_append.1 (show e ∈ pro d x ++ pros d r from h) with h | h
    · exact pro_mem d x e hm.2.1 h
    · exact pros_memm a (i + 1) d r e hm.2.2 h
end
theorem hOf_size (x : Im) (h : tb x < 1000000000000000000) : (hOf x).size ≤ 9 := by
  have h1 := body_tb x h
  have h0 := h
  rw [tb_eq] at h
  unfold hOf
  split
  · exact hdB_size _ _ (by omega)
  · split
    · exact Nat.zero_le _
    · exact hdB_size _ _ (by omega)
theorem cnt_tb : ∀ (N : Nat) (x : Im), cnt x ≤ N → cnt x ≤ tb x := by
  have key : ∀ N, (∀ x : Im, cnt x ≤ N → cnt x ≤ tb x) := by
    intro N
    induction N with
    | zero => intro x h; rw [cnt_eq] at h; omega
    | succ N ih =>
      intro x h
      rw [cnt_eq] at h ⊢
      rw [tb_eq]
      have : ∀ xs : List Im, cnts xs ≤ N → cnts xs ≤ tbs xs := by
        intro xs
        induction xs with
        | nil => intro _; exact Nat.le_refl _
        | cons y r ihr =>
          intro hc
          have h0 : cnts (y :: r) = cnt y + cnts r := rfl
          have h1 : tbs (y :: r) = tb y + tbs r := rfl
          have := ih y (by omega)
          have := ihr (by omega)
          omega
      have := this x.xs (by omega)
      omega
  exact key
/-- The state of a round: the bytes so far in a slice of their own. -/
def ESt {x : Im} (z zz bB n0 : Nat) (w : World) (pre : List (El x)) (W : World) : Prop :=
  ∃ v, Bx bB 58 v W ∧ W.ownsRow zz 5 1 v (cat (pre.map (·.1))).size (Lib.strCells (cat (pre.map (·.1)))) ∧ Hid (v ≠ .slice none 0 0) ∧ Below z w W ∧ inMem n0 W x
theorem owns_below {w w' : World} {b : Nat} {e : TypeId} {size : Nat} {v : Value} {n : Nat} {xs : List Value} (h : w.ownsRow b e size v n xs) (hb : Below w.heap.size w w') : w'.ownsRow b e size v n xs :=
  h.kept (row := none) ⟨hb.os, hb.tape, hb.output, hb.size, fun k hk _ => hb.block k hk⟩ (by cases v.ownBlock <;> simp)
theorem owns_own {A C : World} {b n : Nat} {e : TypeId} {v : Value} {xs : List Value} {row : Option Nat} (h : A.ownsRow b e 1 v n xs) (hg : A.grownBy C row) (hr : ∀ r, row = some r → ∃ o : Obj, A.heap[r]? = some o ∧ o.isCells = false) : C.ownsRow b e 1 v n xs := by
  refine h.kept hg ?_
  cases e' : v.ownBlock with
  | none => exact .inl rfl
  | some k =>
    obtain ⟨c, fz, hk⟩ := Lib.ownsRowF_kind (World.ownsRowF_of h) k e'
    refine .inr fun e2 => ?_
    obtain ⟨o, ho, hc⟩ := hr k e2.symm
    rw [hk] at ho
    cases ho
    cases hc
theorem ESt.own {x : Im} {z zz bB n0 : Nat} {w A C : World} {pre : List (El x)} {row : Option Nat} (h : ESt z zz bB n0 w pre A) (hz : n0 ≤ z ∧ z < bB) (hg : A.grownBy C row) (hr : ∀ r, row = some r → z ≤ r ∧ ∃ o : Obj, A.heap[r]? = some o ∧ o.isCells = false) : ESt z zz bB n0 w pre C := by
  obtain ⟨v, h1, h2, h3, h4, h5⟩ := h
  have hl := h1.lt
  refine ⟨v, h1.own hg (fun r e => (hr r e).2), owns_own h2 hg (fun r e => (hr r e).2), h3, h4.grown hg (by omega) (fun k e => (hr k e).1), inMem_below (by omega) ((Below.refl n0 A).grown hg (by omega) (fun k e => Nat.le_trans hz.1 (hr k e).1)) x h5⟩
/-- A slice that is appended to, in its box. -/
theorem app_step {W W9 : World} {zz bB n n' : Nat} {v v' : Value} {xs xs' : List Value} (hBB : Bx bB 58 v W) (hown : W.ownsRow zz 5 1 v n xs) (hown' : W9.ownsRow zz 5 1 v' n' xs') (hg : W.grownBy W9 v.ownBlock) (n0 : Nat) (h0 : n0 ≤ zz) (h1 : n0 ≤ bB) :
    Bx bB 58 v' (W9.setCell ⟨bB, 0, none⟩ v') ∧ (W9.setCell ⟨bB, 0, none⟩ v').ownsRow zz 5 1 v' n' xs' ∧ ItK n0 W (W9.setCell ⟨bB, 0, none⟩ v') ∧ (∀ B, B ≤ zz → B ≤ bB → Below B W (W9.setCell ⟨bB, 0, none⟩ v')) ∧ ∀ B, KeepsFrom B W (W9.setCell ⟨bB, 0, none⟩ v') := by
  have hlt := hBB.lt
  have kind := Lib.ownsRowF_kind (World.ownsRowF_of hown)
  have kind' := Lib.ownsRowF_kind (World.ownsRowF_of hown')
  have hne : some bB ≠ v.ownBlock := fun e => by
    obtain ⟨c, fz, hk⟩ := kind bB e.symm
    rw [show W.heap[bB]? = _ from hBB] at hk
    cases hk
  have hB9 : Bx bB 58 v W9 := (hg.block bB hlt hne).trans hBB
  have hne' : v'.ownBlock ≠ some bB := fun e => by
    obtain ⟨c, fz, hk⟩ := kind' bB e
    rw [show W9.heap[bB]? = _ from hB9] at hk
    cases hk
  have hbel : ∀ B, B ≤ zz → B ≤ bB → Below B W (W9.setCell ⟨bB, 0, none⟩ v') := fun B hB hB2 =>
    ((Below.refl B W).grown hg (by omega) (fun k e => Nat.le_trans hB (hown.lt k e).1)).setCell (p := ⟨bB, 0, none⟩) hB2 _
  refine ⟨hB9.put v', ?_, ⟨hbel n0 h0 h1, fun k c fz hk => ?_⟩, hbel, fun B => ⟨?_, fun k o _ hk ho => ?_⟩⟩
  · exact hown'.kept (row := some bB) ⟨rfl, rfl, rfl, by simp [World.setCell], fun k _ hk => Below.heap_setCell _ _ _ _ (fun e => hk (by simp [e]))⟩ (Or.inr hne')
  · rw [Below.heap_setCell _ _ _ _ (fun e => by rw [e, show W.heap[bB]? = _ from hBB] at hk; cases hk), hg.block k (Array.getElem?_eq_some_iff.1 hk).1 (fun e => by
      obtain ⟨c', fz', hk'⟩ := kind k e.symm
      rw [hk] at hk'
      cases hk')]
    exact hk
  · have := hg.size
    simp [World.setCell]
    omega
  · rw [Below.heap_setCell _ _ _ _ (fun e => by rw [e, show W.heap[bB]? = _ from hBB] at hk; cases hk; cases ho), hg.block k (Array.getElem?_eq_some_iff.1 hk).1 (fun e => by
      obtain ⟨c', fz', hk'⟩ := kind k e.symm
      rw [hk] at hk'
      cases hk'
      cases ho)]
    exact hk
theorem owns_form {W : World} {zz n : Nat} {e : TypeId} {v : Value} {xs : List Value} (h : W.ownsRow zz e 1 v n xs) (hv : v ≠ .slice none 0 0) : ∃ g c, v = .slice (some ⟨g, 0, none⟩) n c := by
  rcases h.2 with ⟨h, _⟩ | ⟨g, c, _, h, _⟩
  · exact absurd h hv
  · exact ⟨g, c, h⟩
theorem app_box {W W9 : World} {zz bB n : Nat} {v : Value} {xs : List Value} (hBB : Bx bB 58 v W) (hown : W.ownsRow zz 5 1 v n xs) (hg : W.grownBy W9 v.ownBlock) : Bx bB 58 v W9 :=
  (hg.block bB hBB.lt (fun e => by
    obtain ⟨c, fz, hk⟩ := Lib.ownsRowF_kind (World.ownsRowF_of hown) bB e.symm
    rw [show W.heap[bB]? = _ from hBB] at hk
    cases hk)).trans hBB
theorem cat_le {x : Im} (htb : tb x < 10000000) (l : List (Nat × Im)) (h : ∀ e, e ∈ l → e ∈ pro 1 x) : (cat l).size ≤ l.length * 11000000 := by
  have key : ∀ (l : List (Nat × Im)) (b : ByteArray), (∀ e, e ∈ l → e ∈ pro 1 x) → (l.foldl (fun b e => b ++ hOf e.2 ++ e.2.t) b).size ≤ b.size + l.length * 11000000 := by
    intro l
    induction l with
    | nil => intro b _; exact Nat.le_refl _
    | cons e l ih =>
      intro b h
      have h1 := ih (b ++ hOf e.2 ++ e.2.t) (fun e' he => h e' (List.mem_cons_of_mem _ he))
      have h2 := pro_tb 1 x e (h e (List.mem_cons_self ..))
      have h3 := hOf_size e.2 (by omega)
      have h4 := tb_eq e.2
      rw [ByteArray.size_append, ByteArray.size_append] at h1
      rw [List.foldl_cons, List.length_cons]
      omega
  have := key l ⟨#[]⟩ h
  have h0 : (⟨#[]⟩ : ByteArray).size = 0 := rfl
  unfold cat
  omega
/-- What Encode answers. -/
def encE (x : Im) : Int := if deep x then 41 else if right x then (if 65536 < szOf x then 42 else 0) else 2
def encS (x : Im) : ByteArray := if encE x = 0 then cat (pro 1 x) else ⟨#[]⟩

set_option maxRecDepth 100000 in
set_option maxHeartbeats 4000000 in
theorem encode_any (x : Im) (htb : tb x < 10000000) (n0 : Nat) (w : World) (hw : n0 ≤ w.heap.size) (hm : inMem n0 w x) :
    Calls Tryd.prog 43 #[x.val] w fun e w' => e = .returned (.tuple #[.string (encS x), .int .i64 (encE x)]) ∧ Below w.heap.size w w' := by
  obtain ⟨i0, hi0, hz0, hz1, hz2⟩ := info_parts info_u8
  have hcnt := cnt_tb (cnt x) x (Nat.le_refl _)
  have KD : Hid (∀ (w : World), n0 ≤ w.heap.size → inMem n0 w x → _) := fun w hw hm => isDeep_any x (by omega) n0 w hw hm
  have KR : Hid (∀ (w : World), n0 ≤ w.heap.size → inMem n0 w x → _) := fun w hw hm => isRight_any x (by omega) n0 w hw hm
  have KZ : Hid (∀ (w : World), n0 ≤ w.heap.size → inMem n0 w x → _) := fun w hw hm => sizeOf_all (cnt x) x (Nat.le_refl _) (by omega) n0 w hw hm
  have KW : Hid (∀ w : World, _) := fun w : World => within_any x w
  have KS := fun n bX w hb hn hm => within_stops n bX n0 x (by omega) w hb hn hm
  have hszb := sz_tb x (by omega)
  have HE : Hid (encE x = (if deep x then 41 else if right x then (if 65536 < szOf x then 42 else 0) else 2) ∧ encS x = (if encE x = 0 then cat (pro 1 x) else ⟨#[]⟩)) := ⟨rfl, rfl⟩
  obtain ⟨dp, hdp⟩ : ∃ b, deep x = b := ⟨_, rfl⟩
  obtain ⟨rt, hrt⟩ : ∃ b, right x = b := ⟨_, rfl⟩
  obtain ⟨sz, hsz⟩ : ∃ b, szOf x = b := ⟨_, rfl⟩
  rw [hdp] at KD HE
  rw [hrt] at KR HE
  rw [hsz] at KZ HE hszb
  obtain ⟨il, it, ia, ic, xs⟩ := x
  replace KW : Hid (∀ w : World, Calls Tryd.prog 85 #[.agg #[.bool il, .string it, .slice ia xs.length ic]] w fun e w' => e = .returned (.func (.func 119) #[] #[.pointer (some ⟨w.heap.size, 0, none⟩)]) ∧ w' = w.alloc (.cells #[.bool il, .string it, .slice ia xs.length ic] 70)) := KW
  show Calls Tryd.prog 43 #[.agg #[.bool il, .string it, .slice ia xs.length ic]] w _
  refine (callsIn_wide (n := 9)).1 ?_
  refine callsIn_of_wp_marks Tryd.func43 rfl trivial ?_ rfl
  refine wpIn_wide.2 ?_
  simp only [Tryd.ntmps43, List.size_toArray, List.length_cons, List.length_nil, Nat.reduceAdd, Nat.reduceSub, Array.replicate_succ, Array.replicate_zero, List.push_toArray, List.append_toArray, List.nil_append, List.cons_append]
  have A0 : Below w.heap.size w (w.alloc (.cells #[.bool il, .string it, .slice ia xs.length ic] 70)) := (Below.refl _ w).alloc (Nat.le_refl _) _
  have hB0 : ItIn w.heap.size (.mk il it ia ic xs) (w.alloc (.cells #[.bool il, .string it, .slice ia xs.length ic] 70)) := World.alloc_heap_new w _
  have hm0 := inMem_below hw (A0.mono hw) _ hm
  go_wp2_with fail
  refine (KD.out _ (by simp; omega) hm0).mono ?_
  rintro e w1 ⟨rfl, B1⟩
  have hB1 : ItIn w.heap.size (.mk il it ia ic xs) w1 := (B1.block _ hB0.lt).trans hB0
  have hm1 := inMem_below (by simp; omega) (B1.mono (by simp; omega)) _ hm0
  have C1 := belowStep A0 A0.size B1
  clear B1 A0 hB0 hm0 KD hm
  obtain ⟨z, hz⟩ : ∃ c, w.heap.size = c := ⟨_, rfl⟩
  have HZ : Hid (w.heap.size = z) := hz
  rw [hz] at hB1 C1 hw ⊢
  clear hz
  have x0 : w1.cell? ⟨z, 0, none⟩ = some (.bool il) := by rw [Lib.cell_of_heap hB1]; rfl
  have x1 : w1.cell? ⟨z, 1, none⟩ = some (.string it) := by rw [Lib.cell_of_heap hB1]; rfl
  have x2 : w1.cell? ⟨z, 2, none⟩ = some (.slice ia xs.length ic) := by rw [Lib.cell_of_heap hB1]; rfl
  cases dp with
  | true =>
    have HO : Hid (encE (.mk il it ia ic xs) = 41 ∧ encS (.mk il it ia ic xs) = ⟨#[]⟩) := by
      obtain ⟨h1, h2⟩ := HE.out
      rw [if_pos rfl] at h1
      rw [h1] at h2
      exact ⟨h1, h2⟩
    go_wp2
    refine ⟨.tuple #[.string ⟨#[]⟩, .int .i64 41], by simp [results, Tryd.results43, go_sem], by rw [HO.out.1, HO.out.2], ?_⟩
    rw [HZ.out]
    exact C1
  | false =>
    go_wp2_with fail
    refine (KR.out _ (by have := hB1.lt; omega) hm1).mono ?_
    rintro e w2 ⟨rfl, B2⟩
    have hB2 : ItIn z (.mk il it ia ic xs) w2 := (B2.block _ hB1.lt).trans hB1
    have hm2 := inMem_below (by have := hB1.lt; omega) (B2.mono (by have := hB1.lt; omega)) _ hm1
    have C2 := belowStep C1 (by have := hB1.lt; omega) B2
    clear B2 hB1 hm1 C1 x0 x1 x2
    have x0 : w2.cell? ⟨z, 0, none⟩ = some (.bool il) := by rw [Lib.cell_of_heap hB2]; rfl
    have x1 : w2.cell? ⟨z, 1, none⟩ = some (.string it) := by rw [Lib.cell_of_heap hB2]; rfl
    have x2 : w2.cell? ⟨z, 2, none⟩ = some (.slice ia xs.length ic) := by rw [Lib.cell_of_heap hB2]; rfl
    cases rt with
    | false =>
      have HO : Hid (encE (.mk il it ia ic xs) = 2 ∧ encS (.mk il it ia ic xs) = ⟨#[]⟩) := by
        obtain ⟨h1, h2⟩ := HE.out
        rw [if_neg (by decide), if_neg (by decide)] at h1
        rw [h1] at h2
        exact ⟨h1, h2⟩
      go_wp2
      refine ⟨.tuple #[.string ⟨#[]⟩, .int .i64 2], by simp [results, Tryd.results43, go_sem], by rw [HO.out.1, HO.out.2], ?_⟩
      rw [HZ.out]
      exact C2
    | true =>
      go_wp2_with fail
      refine (KZ.out _ (by have := hB2.lt; omega) hm2).mono ?_
      rintro e w3 ⟨rfl, B3⟩
      have hB3 : ItIn z (.mk il it ia ic xs) w3 := (B3.block _ hB2.lt).trans hB2
      have hm3 := inMem_below (by have := hB2.lt; omega) (B3.mono (by have := hB2.lt; omega)) _ hm2
      have C3 := belowStep C2 (by have := hB2.lt; omega) B3
      clear B3 hB2 hm2 C2 x0 x1 x2
      have x0 : w3.cell? ⟨z, 0, none⟩ = some (.bool il) := by rw [Lib.cell_of_heap hB3]; rfl
      have x1 : w3.cell? ⟨z, 1, none⟩ = some (.string it) := by rw [Lib.cell_of_heap hB3]; rfl
      have x2 : w3.cell? ⟨z, 2, none⟩ = some (.slice ia xs.length ic) := by rw [Lib.cell_of_heap hB3]; rfl
      by_cases hbig : 65536 < sz
      · have l0 : (65536 : Int) < sz := by omega
        have HO : Hid (encE (.mk il it ia ic xs) = 42 ∧ encS (.mk il it ia ic xs) = ⟨#[]⟩) := by
          obtain ⟨h1, h2⟩ := HE.out
          replace h1 : encE (.mk il it ia ic xs) = 42 := by simpa [hbig] using h1
          rw [h1] at h2
          exact ⟨h1, h2⟩
        go_wp2
        refine ⟨.tuple #[.string ⟨#[]⟩, .int .i64 42], by simp [results, Tryd.results43, go_sem], by rw [HO.out.1, HO.out.2], ?_⟩
        rw [HZ.out]
        exact C3
      · have l0 : ¬ (65536 : Int) < sz := by omega
        have HO : Hid (encE (.mk il it ia ic xs) = 0 ∧ encS (.mk il it ia ic xs) = cat (pro 1 (.mk il it ia ic xs))) := by
          obtain ⟨h1, h2⟩ := HE.out
          replace h1 : encE (.mk il it ia ic xs) = 0 := by simpa [hbig] using h1
          rw [h1, if_pos rfl] at h2
          exact ⟨h1, h2⟩
        go_wp2_with (at_make; refine wpList_make_own _ rfl _ _ 58 rfl w3.heap.size 5 i0 (.int .u8 0) 1 Tryd.underlying58 hi0 hz0 hz1 .i64 .i64 _ sz rfl rfl (by omega) (by rw [hz2]; omega) (by unfold maxLen; omega) (Nat.le_refl _) ?_; intro w4 hown hgr; have B4 : Below w3.heap.size w3 w4 := (Below.refl _ w3).grown hgr (Nat.le_refl _) (fun _ e => by cases e); have A5 : Below w3.heap.size w3 (w4.alloc (.cells #[.slice (some ⟨w3.heap.size, 0, none⟩) 0 sz] 58)) := B4.alloc B4.size _; have y0 := (A5.cell (p := ⟨z, 0, none⟩) hB3.lt).trans x0; have y1 := (A5.cell (p := ⟨z, 1, none⟩) hB3.lt).trans x1; have y2 := (A5.cell (p := ⟨z, 2, none⟩) hB3.lt).trans x2)
        refine wpOfC (fun W => Bx w4.heap.size 58 (.slice (some ⟨w3.heap.size, 0, none⟩) 0 sz) W ∧ W.ownsRow w3.heap.size 5 1 (.slice (some ⟨w3.heap.size, 0, none⟩) 0 sz) 0 [] ∧ Below w3.heap.size w3 W) ⟨World.alloc_heap_new w4 _, hown.alloc _, A5⟩ ?_
        rintro w5 ⟨hBB, hown5, B5⟩
        have hm5 := inMem_below (by have := hB3.lt; omega) (B5.mono (by have := hB3.lt; omega)) _ hm3
        have C5 := belowStep C3 (by have := hB3.lt; omega) B5
        have hzz : z < w3.heap.size := hB3.lt
        have hbb := hBB.lt
        have hbz : w3.heap.size ≤ w4.heap.size := B4.size
        clear y0 y1 y2 x0 x1 x2 A5 B4 hgr hown B5 hB3 hm3 C3 KR KZ
        obtain ⟨zz, hzz2⟩ : ∃ c, w3.heap.size = c := ⟨_, rfl⟩
        obtain ⟨bB, hbB2⟩ : ∃ c, w4.heap.size = c := ⟨_, rfl⟩
        rw [hzz2] at hown5 hBB hzz hbz ⊢
        rw [hbB2] at hBB hbb hbz ⊢
        clear hzz2 hbB2
        refine (KW.out _).mono ?_
        rintro e w6 ⟨rfl, hw6⟩
        have a6 : Below w5.heap.size w5 w6 := by rw [hw6]; exact (Below.refl _ w5).alloc (Nat.le_refl _) _
        have hcx : ItIn w5.heap.size (.mk il it ia ic xs) w6 := by rw [hw6]; exact World.alloc_heap_new w5 _
        have hBB6 : Bx bB 58 (.slice (some ⟨zz, 0, none⟩) 0 sz) w6 := (a6.block bB hbb).trans hBB
        have hown6 := owns_below hown5 a6
        have C6 := belowStep C5 (by omega) a6
        have hm6 := inMem_below (by omega) (a6.mono (by omega)) _ hm5
        clear hw6 a6 hBB hown5 C5 hm5
        obtain ⟨bX, hbX⟩ : ∃ c, w5.heap.size = c := ⟨_, rfl⟩
        rw [hbX] at hcx hbb ⊢
        clear hbX
        go_wp2_with fail
        have hxz : bX < w6.heap.size := hcx.lt
        have hn6 : n0 ≤ w6.heap.size := by omega
        refine (wpIn_wide (n := 9)).1 ?_
        refine wpIn_rangeFunc_ownH rfl (by omega) (gf := 119) (lb := #[.pointer (some ⟨bX, 0, none⟩)]) rfl trivial (enters_of Tryd.func119 (by kernel_rfl) rfl)
          (KS _ bX w6 hcx hn6 hm6) (fun h k => ItK.trans h k) (fun W l o o' hl h1 h2 h3 => itK_put hn6 hl h1 h2 h3) (Below.refl _ _) (fun _ => rfl)
          (fun pre W => ESt z zz bB n0 w pre W)
          (fun _ _ _ => False)
          (fun s A C row hs hg hr => hs.own (by omega) hg (fun r e => ⟨Nat.le_trans (by omega) (hr r e).1, (hr r e).2⟩))
          (fun _ _ _ _ _ hs _ _ => hs)
          ⟨_, hBB6, hown6, (fun e => Value.noConfusion e fun a _ _ => by cases a), C6, hm6⟩
          (fun x a' W => ∃ Bi, bB < Bi ∧ ItIn Bi x.1.2 W ∧ a' = { tmps := #[.agg #[.bool il, .string it, .slice ia xs.length ic], .pointer (some ⟨z, 0, none⟩), .string ⟨#[]⟩, .int .i64 0, .int .i64 sz, .pointer (some ⟨bB, 0, none⟩), undef, .pointer (some ⟨Bi, 0, none⟩), .bool false, .agg #[.bool il, .string it, .slice ia xs.length ic], .bool false, .bool false, .agg #[.bool il, .string it, .slice ia xs.length ic], .bool true, .bool false, .agg #[.bool il, .string it, .slice ia xs.length ic], .int .i64 sz, .int .i64 sz, .bool (decide ((65536 : Int) < sz)), .int .i64 sz, .slice (some ⟨zz, 0, none⟩) 0 sz, .agg #[.bool il, .string it, .slice ia xs.length ic], .func (.func 119) #[] #[.pointer (some ⟨bX, 0, none⟩)], .int .i64 x.1.1, x.1.2.val, undef, undef, undef, undef, undef, undef, undef, undef, undef, undef], defers := [] })
          (fun x a' _ X Y row hs hg hr => by obtain ⟨Bi, h1, h2, h3⟩ := hs; exact ⟨Bi, h1, h2.own hg (fun r e => (hr r e).2), h3⟩)
          ?assign ?body ?done ?stop
        case assign =>
          rintro l pre x W K hI hK
          have hlW : bB < W.heap.size := by obtain ⟨_, h1, _⟩ := hI; exact h1.lt
          dsimp only [wEnc]
          obtain ⟨⟨d, il2, it2, ia2, ic2, xs2⟩, hx⟩ := x
          simp only [Im.val, Im.l, Im.t, Im.sl, Im.a, Im.xs, Im.c]
          have A1 : Below W.heap.size W (W.alloc (.cells #[.bool il2, .string it2, .slice ia2 xs2.length ic2] 70)) := (Below.refl _ W).alloc (Nat.le_refl _) _
          have hN : ItIn W.heap.size (.mk il2 it2 ia2 ic2 xs2) (W.alloc (.cells #[.bool il2, .string it2, .slice ia2 xs2.length ic2] 70)) := World.alloc_heap_new W _
          have hI2 := hI.own ⟨hw, by omega⟩ (grown_of A1) (fun r e => by cases e)
          gi_wp2
          exact hK _ _ ((ko_below A1).from _) (ItK.of_below (by omega) A1) hI2 ⟨W.heap.size, hlW, hN, rfl⟩
        case body =>
          rintro l pre x a' W hl ⟨r, hr⟩ hI ⟨Bi, hBi, hIt, rfl⟩ hlt
          obtain ⟨v, hBBd, hownd, hnv, BWd, hmd⟩ := hI
          have hme := pro_mem 1 _ x.1 hmd x.2
          have htbe := pro_tb 1 _ x.1 x.2
          have hlW := hBBd.lt
          have cB := hBBd.cell
          have fB := hBBd.fr
          obtain ⟨⟨d, il2, it2, ia2, ic2, xs2⟩, hx⟩ := x
          have i0' : W.cell? ⟨Bi, 0, none⟩ = some (.bool il2) := by rw [Lib.cell_of_heap hIt]; rfl
          have i1 : W.cell? ⟨Bi, 1, none⟩ = some (.string it2) := by rw [Lib.cell_of_heap hIt]; rfl
          have i2 : W.cell? ⟨Bi, 2, none⟩ = some (.slice ia2 xs2.length ic2) := by rw [Lib.cell_of_heap hIt]; rfl
          simp only [Im.val, Im.l, Im.t, Im.sl, Im.a, Im.xs, Im.c]
          have hprel := pre.length
          have hcl := cat_le htb (pre.map (·.1)) (fun e he => by obtain ⟨e', _, rfl⟩ := List.mem_map.1 he; exact e'.2)
          rw [List.length_map] at hcl
          have htb2 : tb (.mk il2 it2 ia2 ic2 xs2) < 10000000 := Nat.lt_of_le_of_lt htbe htb
          have htx : it2.size < 10000000 := by rw [tb_eq] at htb2; have : (Im.mk il2 it2 ia2 ic2 xs2).t.size = it2.size := rfl; omega
          have hh9 := hOf_size (.mk il2 it2 ia2 ic2 xs2) (by omega)
          have KH : Hid (∀ (w : World), n0 ≤ w.heap.size → inMem n0 w (.mk il2 it2 ia2 ic2 xs2) → _) := fun w hw hm => headOf_any (.mk il2 it2 ia2 ic2 xs2) (by omega) n0 w hw hm
          obtain ⟨hd, hhd⟩ : ∃ s, hOf (.mk il2 it2 ia2 ic2 xs2) = s := ⟨_, rfl⟩
          obtain ⟨cs, hcs⟩ : ∃ s, cat (pre.map (·.1)) = s := ⟨_, rfl⟩
          rw [hhd] at KH hh9
          rw [hcs] at hownd hcl
          have HC : Hid (cat ((pre ++ [⟨(d, .mk il2 it2 ia2 ic2 xs2), hx⟩] : List (El _)).map (·.1)) = cs ++ hd ++ it2) := by
            show cat _ = _
            rw [List.map_append, List.map_cons, List.map_nil, cat_snoc, hcs, hhd]
            rfl
          have hnW : n0 ≤ W.heap.size := by omega
          have cH : ∀ d os, Calls Tryd.prog 86 #[.agg #[.bool il2, .string it2, .slice ia2 xs2.length ic2]] (grow (redrawn W d) os) fun e w'' => e = .returned (.string hd) ∧ ∃ p : Regrown, w'' = grow (redrawn W p.d) p.os := fun d os => Calls.regrown_of (KH.out _ (Nat.le_trans hnW (below_regrown W d os).size) (inMem_below hnW ((below_regrown W d os).mono hnW) _ hme))
          have k0 := cell_regrown cB
          have k1 := cell_regrown i0'
          have k2 := cell_regrown i1
          have k3 := cell_regrown i2
          clear hcs hhd KH
          gi_wp2_with fail
          refine region_tail_in l _ 3 (by kernel_rfl) (by kernel_rfl) (by rintro ⟨_, _, h⟩; exact h) (by kernel_rfl) ?_
          simp only [List.take_succ_cons, List.take_zero, List.drop_succ_cons, List.drop_zero]
          iterate 2 (quiet_step (fail))
          quiet_step (exact cH _ _)
          refine wpQuiet_nil ?_
          intro w8 hw8
          have hb8 : Below W.heap.size W w8 := by
            obtain ⟨p, rfl⟩ := hw8
            exact below_regrown _ _ _
          have hBB8 : Bx bB 58 v w8 := (hb8.block bB hlW).trans hBBd
          have hown8 := owns_below hownd hb8
          have hIt8 : ItIn Bi (.mk il2 it2 ia2 ic2 xs2) w8 := (hb8.block Bi hIt.lt).trans hIt
          have BW8 := belowStep BWd (by omega) hb8
          have IK8 : ItK n0 W w8 := ItK.of_below (by omega) hb8
          have KF8 := (ko_below hb8).from w6.heap.size
          have hnw8 := hb8.size
          clear hw8 k0 k1 k2 k3 cH cB fB i0' i1 i2
          have cB8 := hBB8.cell
          have fB8 := hBB8.fr
          have cI8 : w8.cell? ⟨Bi, 1, none⟩ = some (.string it2) := by rw [Lib.cell_of_heap hIt8]; rfl
          have hzw8 : zz ≤ w8.heap.size := by omega
          refine Lib.wpList_append_own_string _ rfl _ _ 58 9 rfl zz 5 i0 Tryd.underlying58 Tryd.underlying9 hi0 hz0 hz1 hz2 v _ _ rfl hown8 hd rfl (by unfold maxLen; omega) (by omega) hzw8 ?_
          intro v9 w9 hown9 hgrow hiff
          have hnv9 : v9 ≠ .slice none 0 0 := fun e => hnv.out (hiff.1 e).1
          clear hiff
          obtain ⟨g9, c9, rfl⟩ := owns_form hown9 hnv9
          clear hnv9
          have hBB9 := app_box hBB8 hown8 hgrow
          obtain ⟨hBBa, howna, IKa, Ba, KFa⟩ := app_step hBB8 hown8 hown9 hgrow n0 (by omega) (by omega)
          have hIta : ItIn Bi (.mk il2 it2 ia2 ic2 xs2) (w9.setCell ⟨bB, 0, none⟩ _) := IKa.i Bi _ _ hIt8
          have cB9 := hBB9.cell
          have fB9 := hBB9.fr
          have HX : Hid (_ ∧ _ ∧ _ ∧ _ ∧ _ ∧ _) := ⟨hBBa, howna, IKa, Ba, KFa, hIta⟩
          clear hBBa howna IKa Ba KFa hIta
          go_wp2
          obtain ⟨hBBa, howna, IKa, Ba, KFa, hIta⟩ := HX.out
          have BWa := BW8.trans (Ba z (by omega) (by omega))
          have IKb := IK8.trans IKa
          have KFb := KF8.trans (KFa w6.heap.size)
          clear HX cB9 fB9 hBB9 hgrow hown9 Ba KFa IKa cB8 fB8 cI8 IK8 KF8 BW8 hIt8 hBB8 hown8 hb8
          generalize w9.setCell ⟨bB, 0, none⟩ (.slice (some ⟨g9, 0, none⟩) (cs.size + hd.size) c9) = Wa at *
          have cBa := hBBa.cell
          have fBa := hBBa.fr
          have cIa : Wa.cell? ⟨Bi, 1, none⟩ = some (.string it2) := by rw [Lib.cell_of_heap hIta]; rfl
          refine region_ord_in l _ (by kernel_rfl) (by rintro ⟨_, _, h⟩; exact h) ?_
          go_wp2_with (at_builtin; refine Lib.wpList_append_own_string _ rfl _ _ 58 9 rfl zz 5 i0 Tryd.underlying58 Tryd.underlying9 hi0 hz0 hz1 hz2 _ _ _ rfl howna it2 rfl (by unfold maxLen; omega) (by omega) (by have := hBBa.lt; omega) ?_; intro v10 w10 hown10 hgrow hiff; have hnv10 : v10 ≠ .slice none 0 0 := (fun e => Value.noConfusion (hiff.1 e).1 fun a _ _ => by cases a); clear hiff; obtain ⟨g10, c10, rfl⟩ := owns_form hown10 hnv10; clear hnv10; have hBBb := app_box hBBa howna hgrow; have hst := app_step hBBa howna hown10 hgrow n0 (by omega) (by omega); have HX : Hid _ := hst; clear hst; have cB9 := hBBb.cell; have fB9 := hBBb.fr)
          obtain ⟨hB11, hown11, IK11, B11, KF11⟩ := HX.out
          refine (?_ : KeepsFrom _ W _ ∧ ItK n0 W _ ∧ ESt z zz bB n0 w (pre ++ [_]) _)
          refine ⟨KFb.trans (KF11 _), IKb.trans IK11, _, hB11, ?_, (fun e => Value.noConfusion e fun a _ _ => by cases a), BWa.trans (B11 z (by omega) (by omega)), inMem_below hnW ((IKb.trans IK11).b) _ hmd⟩
          rw [HC.out, ByteArray.size_append, ByteArray.size_append, strCells_app, strCells_app]
          exact hown11
        case done =>
          rintro D ys W hD hys ⟨v, hBBd, hownd, hnv, BWd, hmd⟩ hK
          rw [hys] at hownd
          have HO2 : Hid _ := HO.out.2
          obtain ⟨cs, hcs⟩ : ∃ s, cat (pro 1 (.mk il it ia ic xs)) = s := ⟨_, rfl⟩
          rw [hcs] at hownd HO2
          obtain ⟨g, cp, rfl⟩ := owns_form hownd hnv.out
          have hcv := run_convert_bytes_back (P := Tryd.prog) W 58 9 5 ⟨g, 0, none⟩ cp cs.data.toList Tryd.underlying58 Tryd.underlying5 Tryd.underlying9 (fun j hj => by
            have hj' : j < cs.size := by simpa using hj
            refine hownd.cells (g := g) rfl j _ ?_
            simp [Lib.strCells, hj'])
          rw [show cs.data.toList.length = cs.size by simp, show (⟨cs.data.toList.toArray⟩ : ByteArray) = cs by simp] at hcv
          have cB := hBBd.cell
          have HX : Hid (_ ∧ _) := ⟨BWd, hK⟩
          clear BWd hK hownd hnv hys
          go_wp2
          obtain ⟨BWd, hK⟩ := HX.out
          have hbP := belowK_b (n₀ := z) (w := w6) (by omega) _ D _ (.deferred none) hD hK rfl rfl
          refine ⟨by simp, .inl ⟨_, _, rfl, run_takeDeferred hK, ?_⟩⟩
          refine ⟨.tuple #[.string cs, .int .i64 0], by simp [results, Tryd.results43, go_sem], by rw [HO.out.1, HO2.out], ?_⟩
          rw [HZ.out]
          exact BWd.trans hbP
        case stop =>
          rintro D c pre W _ _ h _
          exact h.elim
end Go.Proofs.YtmefanagpkbjeaaDoor
namespace Go.Proofs.YtmefanagpkbjeaaDoor
open Go.RowKit Go.Shelf Go.Sort

/-- An item, wherever it lies. -/
inductive It where
  | mk (l : Bool) (t : ByteArray) (xs : List It)
mutual
def er : Im → It
  | .mk l t _ _ xs => .mk l t (ers xs)
def ers : List Im → List It
  | [] => []
  | x :: r => er x :: ers r
end
theorem ers_map : ∀ xs, ers xs = xs.map er
  | [] => rfl
  | x :: r => by
    show er x :: ers r = _
    rw [ers_map r]
    rfl
mutual
/-- It lies in blocks of a kind. -/
def inP (p : Nat → Prop) (W : World) : Im → Prop
  | .mk _ _ a _ xs => rowP p W a 0 xs
def rowP (p : Nat → Prop) (W : World) (a : Option Addr) : Nat → List Im → Prop
  | _, [] => True
  | i, x :: r => (∃ b o, p b ∧ a = some ⟨b, o, none⟩ ∧ W.cell? ⟨b, o + 3 * i, none⟩ = some (.bool x.l) ∧ W.cell? ⟨b, o + 3 * i + 1, none⟩ = some (.string x.t) ∧ W.cell? ⟨b, o + 3 * i + 2, none⟩ = some x.sl) ∧ inP p W x ∧ rowP p W a (i + 1) r
end
mutual
theorem inMem_of {p : Nat → Prop} {n : Nat} {W : World} (hp : ∀ b, p b → b < n) : ∀ x, inP p W x → inMem n W x
  | .mk _ _ a _ xs, h => rowMem_of hp a 0 xs h
theorem rowMem_of {p : Nat → Prop} {n : Nat} {W : World} (hp : ∀ b, p b → b < n) (a : Option Addr) : ∀ i xs, rowP p W a i xs → rowMem n W a i xs
  | _, [], _ => trivial
  | i, x :: r, ⟨⟨b, o, h0, h1, h2⟩, h5, h6⟩ => ⟨⟨b, o, hp b h0, h1, h2⟩, inMem_of hp x h5, rowMem_of hp a (i + 1) r h6⟩
end
mutual
theorem inP_of {p q : Nat → Prop} {W W' : World} (hp : ∀ b, p b → q b ∧ ∀ k, W'.cell? ⟨b, k, none⟩ = W.cell? ⟨b, k, none⟩) : ∀ x, inP p W x → inP q W' x
  | .mk _ _ a _ xs, h => rowP_of hp a 0 xs h
theorem rowP_of {p q : Nat → Prop} {W W' : World} (hp : ∀ b, p b → q b ∧ ∀ k, W'.cell? ⟨b, k, none⟩ = W.cell? ⟨b, k, none⟩) (a : Option Addr) : ∀ i xs, rowP p W a i xs → rowP q W' a i xs
  | _, [], _ => trivial
  | i, x :: r, ⟨⟨b, o, h0, h1, h2, h3, h4⟩, h5, h6⟩ => ⟨⟨b, o, (hp b h0).1, h1, ((hp b h0).2 _).trans h2, ((hp b h0).2 _).trans h3, ((hp b h0).2 _).trans h4⟩, inP_of hp x h5, rowP_of hp a (i + 1) r h6⟩
end

theorem info_item : (Tryd.prog.info? 70).map (fun i => (i.zero, i.size, i.bytes)) = some (some (.agg #[.bool false, .string ⟨#[]⟩, .slice none 0 0]), 3, 48) := by kernel_rfl
theorem cell_ne (W : World) (p : Addr) (u : Value) (b k : Nat) (h : b ≠ p.block) : (W.setCell p u).cell? ⟨b, k, none⟩ = W.cell? ⟨b, k, none⟩ := World.cell?_of_block (w := W) (Below.heap_setCell _ _ _ _ h)
/-- A row that is written at three places. -/
theorem owns_three {W : World} {z N bx q : Nat} {cl : List Value} (h : W.ownsRow z 70 3 (.slice (some ⟨z, 0, none⟩) N N) N cl) (hb : z ≠ bx) (u u0 u1 u2 : Value) :
    ((((W.setCell ⟨bx, 2, none⟩ u).setCell ⟨z, q, none⟩ u0).setCell ⟨z, q + 1, none⟩ u1).setCell ⟨z, q + 2, none⟩ u2).ownsRow z 70 3 (.slice (some ⟨z, 0, none⟩) N N) N (((cl.set q u0).set (q + 1) u1).set (q + 2) u2) := by
  have h1 : (W.setCell ⟨bx, 2, none⟩ u).ownsRow z 70 3 (.slice (some ⟨z, 0, none⟩) N N) N cl :=
    h.kept (row := some bx) ⟨rfl, rfl, rfl, by simp [World.setCell], fun k _ hk => Below.heap_setCell _ _ _ _ (fun e => hk (by simp [e]))⟩ (Or.inr (fun e => hb (by injection e)))
  exact ((((h1.stored q u0).1).stored (q + 1) u1).1.stored (q + 2) u2).1
theorem below_set {B : Nat} {A W : World} (h : Below B A W) (b o : Nat) (hb : B ≤ b) (u : Value) : Below B A (W.setCell ⟨b, o, none⟩ u) := h.setCell (p := ⟨b, o, none⟩) hb u
/-- The items that a row holds, from its front. -/
def Held (cl : List Value) (ys : List Im) : Prop := ∀ j y, ys[j]? = some y → cl[3 * j]? = some (.bool y.l) ∧ cl[3 * j + 1]? = some (.string y.t) ∧ cl[3 * j + 2]? = some y.sl
theorem Held.snoc {cl : List Value} {ys : List Im} (h : Held cl ys) (y : Im) (hl : 3 * ys.length + 2 < cl.length) : Held (((cl.set (3 * ys.length) (.bool y.l)).set (3 * ys.length + 1) (.string y.t)).set (3 * ys.length + 2) y.sl) (ys ++ [y]) := by
  intro j x hx
  by_cases hj : j < ys.length
  · rw [List.getElem?_append_left hj] at hx
    have := h j x hx
    rw [List.getElem?_set_ne (by omega), List.getElem?_set_ne (by omega), List.getElem?_set_ne (by omega), List.getElem?_set_ne (by omega), List.getElem?_set_ne (by omega), List.getElem?_set_ne (by omega), List.getElem?_set_ne (by omega), List.getElem?_set_ne (by omega), List.getElem?_set_ne (by omega)]
    exact this
  · have hj2 : j = ys.length := by
      have := (List.getElem?_eq_some_iff.1 hx).1
      simp at this
      omega
    subst hj2
    simp at hx
    subst hx
    refine ⟨?_, ?_, ?_⟩
    · rw [List.getElem?_set_ne (by omega), List.getElem?_set_ne (by omega), List.getElem?_set_self (by omega)]
    · rw [List.getElem?_set_ne (by omega), List.getElem?_set_self (by simp; omega)]
    · rw [List.getElem?_set_self (by simp; omega)]

set_option maxRecDepth 20000 in
set_option maxHeartbeats 2000000 in
theorem copied_of (xs : List Im) (hc : xs.length < 100000000) (n : Nat) (a : Option Addr) (c : Nat)
    (IH : ∀ (j : Nat) (y : Im), xs[j]? = some y → ∀ w : World, n ≤ w.heap.size → inMem n w y → Calls Tryd.prog 172 #[y.sl] w fun e w' => ∃ a' c' ys, e = .returned (.slice a' ys.length c') ∧ ers ys = ers y.xs ∧ rowP (fun b => w.heap.size ≤ b ∧ b < w'.heap.size) w' a' 0 ys ∧ Below w.heap.size w w')
    (w : World) (hn : n ≤ w.heap.size) (hm : rowMem n w a 0 xs) :
    Calls Tryd.prog 172 #[.slice a xs.length c] w fun e w' => ∃ a' c' ys, e = .returned (.slice a' ys.length c') ∧ ers ys = ers xs ∧ rowP (fun b => w.heap.size ≤ b ∧ b < w'.heap.size) w' a' 0 ys ∧ Below w.heap.size w w' := by
  obtain ⟨i0, hi0, hz0, hz1, hz2⟩ := info_parts info_item
  go_enter Tryd.func172, Tryd.ntmps172
  obtain ⟨N, hN⟩ : ∃ N, xs.length = N := ⟨_, rfl⟩
  rw [hN] at hc ⊢
  by_cases h0 : N = 0
  · subst h0
    go_wp2
    go_ret
    have : xs = [] := List.length_eq_zero_iff.1 hN
    subst this
    exact ⟨none, 0, [], rfl, rfl, trivial, Below.refl _ _⟩
  · have l0 : ¬ (N : Int) = 0 := by omega
    go_wp2_with (at_make; refine wpList_make_full _ rfl _ _ 68 rfl w.heap.size 70 i0 _ 3 Tryd.underlying68 hi0 hz0 hz1 .i64 .i64 _ _ N rfl rfl rfl rfl (by rw [hz2]; omega) (by unfold maxLen; omega) (Nat.le_refl _) ?_; intro w1 hown hgr)
    obtain ⟨z, hz⟩ : ∃ z, w.heap.size = z := ⟨_, rfl⟩
    have B1 : Below z w w1 := hz ▸ (Below.refl _ w).grown hgr (Nat.le_refl _) (fun _ e => by cases e)
    have HZ : Hid (w.heap.size = z) := hz
    have hzw : z < w1.heap.size := by
      rcases hown.2 with ⟨h, _⟩ | ⟨g, _, _, h, _, h2, _⟩
      · cases h
      · cases h
        rw [← hz]
        exact (Array.getElem?_eq_some_iff.1 h2).1
    rw [hz] at hown hn ⊢
    go_loopg [14] N (fun gk i wr => ∃ (k : Nat) (cl : List Value) (ys : List Im), k + gk = N ∧ i = .int .i64 k ∧ wr.ownsRow z 70 3 (.slice (some ⟨z, 0, none⟩) N N) N cl ∧ Held cl ys ∧ ys.length = k ∧ ers ys = ers (xs.take k) ∧ (∀ y, y ∈ ys → inP (fun b => z < b ∧ b < wr.heap.size) wr y) ∧ Below z w wr)
    case atStart => exact ⟨0, _, [], by omega, rfl, hown, (fun j y h => by cases h), rfl, rfl, (fun y h => by cases h), B1⟩
    case round =>
      obtain ⟨k, cl, ys, hk, rfl, hownr, hheld, hys, hers, hin, BW⟩ := hrel
      have hzr : z < wr.heap.size := (hownr.lt z rfl).2
      by_cases hlt : k < N
      · have l1 : (k : Int) < N := by omega
        obtain ⟨y, hy⟩ : ∃ y, xs[k]? = some y := ⟨xs[k]'(by omega), List.getElem?_eq_getElem (by omega)⟩
        obtain ⟨⟨b, o, hb, rfl, c0, c1, c2⟩, hy2⟩ := row_at xs 0 hm k y hy
        have hbw : b < w.heap.size := by rw [HZ.out]; omega
        have hnr : n ≤ wr.heap.size := by omega
        have hy3 := inMem_below (by rw [HZ.out]; exact hn) (BW.mono hn) y hy2
        have hbz : b < z := by omega
        replace c0 := (BW.cell (p := ⟨b, _, none⟩) hbz).trans c0
        replace c1 := (BW.cell (p := ⟨b, _, none⟩) hbz).trans c1
        replace c2 := (BW.cell (p := ⟨b, _, none⟩) hbz).trans c2
        obtain ⟨p, hp⟩ : ∃ p, o + 3 * k = p := ⟨_, rfl⟩
        rw [show o + 3 * (0 + k) = p by omega] at c0 c1 c2
        have hp2 : o + k * 3 = p := by omega
        have KS := IH k y hy
        have wk : IntKind.i64.wrap ((k : Int) + 1) = ((k + 1 : Nat) : Int) := by rw [IntKind.wrap_i64]; omega
        obtain ⟨yl, yt, ya, yc, yx⟩ := y
        simp only [Im.l, Im.t, Im.sl, Im.a, Im.xs, Im.c] at c0 c1 c2 KS
        clear IH
        go_wp2_with fail
        have A1 : Below wr.heap.size wr (wr.alloc (.cells #[.bool yl, .string yt, .slice ya yx.length yc] 70)) := (Below.refl _ wr).alloc (Nat.le_refl _) _
        have hbx : ItIn wr.heap.size (.mk yl yt ya yc yx) (wr.alloc (.cells #[.bool yl, .string yt, .slice ya yx.length yc] 70)) := World.alloc_heap_new wr _
        refine (KS _ (by simp; omega) (inMem_below hnr (A1.mono hnr) _ hy3)).mono ?_
        rintro e w3 ⟨a', c', zs, rfl, hzs, hrow, B3⟩
        have hbx3 : ItIn wr.heap.size (.mk yl yt ya yc yx) w3 := (B3.block _ (by simp)).trans hbx
        have BA := belowStep A1 (by simp) B3
        rw [World.size_alloc] at hrow
        have hs3 : wr.heap.size < w3.heap.size := hbx3.lt
        have hown3 := owns_below hownr BA
        clear A1 hbx B3 KS hy3 hy2 c0 c1 c2
        have d0 : w3.cell? ⟨wr.heap.size, 0, none⟩ = some (.bool yl) := by rw [Lib.cell_of_heap hbx3]; rfl
        have d1 : w3.cell? ⟨wr.heap.size, 1, none⟩ = some (.string yt) := by rw [Lib.cell_of_heap hbx3]; rfl
        have d2 : w3.cell? ⟨wr.heap.size, 2, none⟩ = some (.slice ya yx.length yc) := by rw [Lib.cell_of_heap hbx3]; rfl
        have f2 := Lib.frozen_of_heap hbx3 2
        obtain ⟨bx, hbxe⟩ : ∃ q, wr.heap.size = q := ⟨_, rfl⟩
        rw [hbxe] at d0 d1 d2 f2 hrow hs3 hbx3 hzr hin ⊢
        have hzx : z ≠ bx := by omega
        obtain ⟨v0, hv0⟩ : ∃ v, w3.cell? ⟨z, k * 3, none⟩ = some v := by
          rw [hown3.cellAt (k * 3) (by omega)]
          exact ⟨_, List.getElem?_eq_getElem (by rw [hown3.1]; omega)⟩
        obtain ⟨v1, hv1⟩ : ∃ v, w3.cell? ⟨z, k * 3 + 1, none⟩ = some v := by
          rw [hown3.cellAt (k * 3 + 1) (by omega)]
          exact ⟨_, List.getElem?_eq_getElem (by rw [hown3.1]; omega)⟩
        obtain ⟨v2, hv2⟩ : ∃ v, w3.cell? ⟨z, k * 3 + 2, none⟩ = some v := by
          rw [hown3.cellAt (k * 3 + 2) (by omega)]
          exact ⟨_, List.getElem?_eq_getElem (by rw [hown3.1]; omega)⟩
        have g0 := hown3.frozenAt (k * 3)
        have g1 := hown3.frozenAt (k * 3 + 1)
        have g2 := hown3.frozenAt (k * 3 + 2)
        have hown4 := owns_three (bx := bx) (q := k * 3) hown3 hzx (.slice a' zs.length c') (.bool yl) (.string yt) (.slice a' zs.length c')
        have HX : Hid (_ ∧ _ ∧ _ ∧ _ ∧ _ ∧ _ ∧ _ ∧ _ ∧ _) := ⟨hown4, hown3.1, BA, BW, hheld, hin, hrow, hers, hzs⟩
        clear hown3 hown4 BA BW hheld hin hrow hers hzs hownr
        go_wp2
        go_roundg (gk - 1)
        case measure => omega
        case rel =>
          obtain ⟨hown4, hcl, BA, BW, hheld, hin, hrow, hers, hzs⟩ := HX.out
          have BWz : Below z w w3 := belowStep BW (by omega) BA
          have hhe := hheld.snoc (.mk yl yt a' c' zs) (by rw [hcl, hys]; omega)
          rw [hys, show 3 * k = k * 3 by omega] at hhe
          simp only [Im.l, Im.t, Im.sl, Im.a, Im.xs, Im.c] at hhe
          refine ⟨k + 1, _, ys ++ [.mk yl yt a' c' zs], by omega, by first | rfl | (congr 1; omega), hown4, hhe, by simp [hys], ?_, ?_, below_set (below_set (below_set (below_set BWz bx 2 (by omega) _) z _ (Nat.le_refl _) _) z _ (Nat.le_refl _) _) z _ (Nat.le_refl _) _⟩
          · rw [ers_map, List.map_append, ← ers_map, hers, List.take_add_one, hy, ers_map, ers_map, List.map_append]
            show _ ++ [It.mk yl yt (ers zs)] = _ ++ [It.mk yl yt (ers yx)]
            rw [hzs]
          · intro y' hy'
            rcases List.mem_append.1 hy' with h | h
            · refine inP_of (fun b hb => ⟨⟨hb.1, by simp [World.setCell]; omega⟩, fun j => ?_⟩) y' (hin y' h)
              rw [cell_ne _ _ _ _ _ (by show b ≠ z; omega), cell_ne _ _ _ _ _ (by show b ≠ z; omega), cell_ne _ _ _ _ _ (by show b ≠ z; omega), cell_ne _ _ _ _ _ (by show b ≠ bx; omega)]
              exact BA.cell (p := ⟨b, j, none⟩) (by rw [hbxe]; exact hb.2)
            · simp at h
              subst h
              refine rowP_of (fun b hb => ⟨⟨by omega, by simp [World.setCell]; omega⟩, fun j => ?_⟩) a' 0 zs hrow
              rw [cell_ne _ _ _ _ _ (by show b ≠ z; omega), cell_ne _ _ _ _ _ (by show b ≠ z; omega), cell_ne _ _ _ _ _ (by show b ≠ z; omega), cell_ne _ _ _ _ _ (by show b ≠ bx; omega)]
      · have hk2 : k = N := by omega
        have l1 : ¬ (k : Int) < N := by omega
        have HX : Hid (_ ∧ _ ∧ _ ∧ _ ∧ _) := ⟨hownr, BW, hheld, hin, hers⟩
        clear hownr BW hheld hin hers
        go_wp2
        go_ret
        obtain ⟨hownr, BW, hheld, hin, hers⟩ := HX.out
        rw [hk2, ← hN, List.take_length] at hers
        refine ⟨some ⟨z, 0, none⟩, N, ys, by rw [hys, hk2]; rfl, hers, ?_, BW⟩
        have key : ∀ (r : List Im) (i : Nat), ys.drop i = r → rowP (fun b => z ≤ b ∧ b < wr.heap.size) wr (some ⟨z, 0, none⟩) i r := by
          intro r
          induction r with
          | nil => intro i _; trivial
          | cons y r ih =>
            intro i hi
            have hyi : ys[i]? = some y := by
              have := congrArg (·[0]?) hi
              simpa using this
            have hil := (List.getElem?_eq_some_iff.1 hyi).1
            obtain ⟨e0, e1, e2⟩ := hheld i y hyi
            refine ⟨⟨z, 0, ⟨Nat.le_refl _, hzr⟩, rfl, ?_, ?_, ?_⟩, ?_, ih (i + 1) ?_⟩
            · rw [show 0 + 3 * i = 3 * i by omega, hownr.cellAt _ (by omega)]; exact e0
            · rw [show 0 + 3 * i + 1 = 3 * i + 1 by omega, hownr.cellAt _ (by omega)]; exact e1
            · rw [show 0 + 3 * i + 2 = 3 * i + 2 by omega, hownr.cellAt _ (by omega)]; exact e2
            · exact inP_of (fun b hb => ⟨⟨by omega, hb.2⟩, fun _ => rfl⟩) y (hin y (List.mem_of_getElem? hyi))
            · rw [← List.drop_drop, hi]
              rfl
        exact key ys 0 rfl
theorem copied_all : ∀ (M : Nat) (xs : List Im), cnts xs ≤ M → cnts xs < 100000000 → ∀ (n : Nat) (a : Option Addr) (c : Nat) (w : World), n ≤ w.heap.size → rowMem n w a 0 xs →
    Calls Tryd.prog 172 #[.slice a xs.length c] w fun e w' => ∃ a' c' ys, e = .returned (.slice a' ys.length c') ∧ ers ys = ers xs ∧ rowP (fun b => w.heap.size ≤ b ∧ b < w'.heap.size) w' a' 0 ys ∧ Below w.heap.size w w'
  | 0, xs, h, h2, n, a, c, w, hn, hm => by
    have hl := len_cnts xs
    have : xs = [] := List.length_eq_zero_iff.1 (by omega)
    subst this
    exact copied_of [] (by simp) n a c (fun j y h => by cases h) w hn hm
  | M + 1, xs, h, h2, n, a, c, w, hn, hm => by
    have hl := len_cnts xs
    refine copied_of xs (by omega) n a c (fun j y hy w' hn' hm' => ?_) w hn hm
    have hc := cnts_at xs j y hy
    rw [cnt_eq] at hc
    rw [inMem_eq] at hm'
    exact copied_all M y.xs (by omega) (by omega) n y.a y.c w' hn' hm'

def txt (s : ByteArray) : Im := .mk false s none 0 []
theorem text_any (s : ByteArray) (w : World) : Calls Tryd.prog 176 #[.string s] w fun e w' => e = .returned (txt s).val ∧ Below w.heap.size w w' := by
  go_enter Tryd.func176, Tryd.ntmps176
  go_wp2
  refine bodyPost_ret (v := .agg #[.bool false, .string s, .slice none 0 0]) (by simp [results, Tryd.results176, go_sem]) rfl ⟨rfl, ?_⟩
  exact (Below.refl _ w).alloc (Nat.le_refl _) _
theorem list_any (xs : List Im) (h : cnts xs < 100000000) (n : Nat) (a : Option Addr) (c : Nat) (w : World) (hn : n ≤ w.heap.size) (hm : rowMem n w a 0 xs) :
    Calls Tryd.prog 170 #[.slice a xs.length c] w fun e w' => ∃ x : Im, e = .returned x.val ∧ er x = .mk true ⟨#[]⟩ (ers xs) ∧ inP (fun b => w.heap.size ≤ b ∧ b < w'.heap.size) w' x ∧ Below w.heap.size w w' := by
  have KC := copied_all (cnts xs) xs (Nat.le_refl _) h n a c
  go_enter Tryd.func170, Tryd.ntmps170
  go_wp2_with fail
  have A1 : Below w.heap.size w (w.alloc (.cells #[.bool false, .string ⟨#[]⟩, .slice none 0 0] 70)) := (Below.refl _ w).alloc (Nat.le_refl _) _
  have hbx : ItIn w.heap.size (.mk false ⟨#[]⟩ none 0 []) (w.alloc (.cells #[.bool false, .string ⟨#[]⟩, .slice none 0 0] 70)) := World.alloc_heap_new w _
  refine (KC _ (by simp; omega) (rowMem_below hn (A1.mono hn) _ _ _ hm)).mono ?_
  rintro e w3 ⟨a', c', zs, rfl, hzs, hrow, B3⟩
  have hbx3 : ItIn w.heap.size (.mk false ⟨#[]⟩ none 0 []) w3 := (B3.block _ (by simp)).trans hbx
  have BA := belowStep A1 (by simp) B3
  rw [World.size_alloc] at hrow
  have hs3 : w.heap.size < w3.heap.size := hbx3.lt
  clear A1 hbx B3 KC
  have d0 : w3.cell? ⟨w.heap.size, 0, none⟩ = some (.bool false) := by rw [Lib.cell_of_heap hbx3]; rfl
  have d1 : w3.cell? ⟨w.heap.size, 1, none⟩ = some (.string ⟨#[]⟩) := by rw [Lib.cell_of_heap hbx3]; rfl
  have d2 : w3.cell? ⟨w.heap.size, 2, none⟩ = some (.slice none 0 0) := by rw [Lib.cell_of_heap hbx3]; rfl
  have f0 := Lib.frozen_of_heap hbx3 0
  have f1 := Lib.frozen_of_heap hbx3 1
  have f2 := Lib.frozen_of_heap hbx3 2
  obtain ⟨bx, hbxe⟩ : ∃ q, w.heap.size = q := ⟨_, rfl⟩
  have HZ : Hid (w.heap.size = bx) := hbxe
  have HX : Hid (_ ∧ _ ∧ _) := ⟨hrow, BA, hzs⟩
  rw [hbxe] at d0 d1 d2 f0 f1 f2 hs3 ⊢
  clear hrow BA hbxe hbx3 hzs
  go_wp2
  obtain ⟨hrow, BA, hzs⟩ := HX.out
  rw [HZ.out] at hrow BA
  refine bodyPost_ret (v := .agg #[.bool true, .string ⟨#[]⟩, .slice a' zs.length c']) (by simp [results, Tryd.results170, go_sem, d0, d1, d2]) rfl ⟨.mk true ⟨#[]⟩ a' c' zs, rfl, by rw [← hzs]; rfl, ?_, ?_⟩
  · rw [HZ.out]
    refine rowP_of (fun b hb => ⟨⟨by omega, by simp [World.setCell]; omega⟩, fun j => ?_⟩) a' 0 zs hrow
    rw [cell_ne _ _ _ _ _ (by show b ≠ bx; omega), cell_ne _ _ _ _ _ (by show b ≠ bx; omega), cell_ne _ _ _ _ _ (by show b ≠ bx; omega)]
  · rw [HZ.out]
    exact below_set (below_set (below_set BA bx _ (Nat.le_refl _) _) bx _ (Nat.le_refl _) _) bx _ (Nat.le_refl _) _
end Go.Proofs.YtmefanagpkbjeaaDoor
namespace Go.Proofs.YtmefanagpkbjeaaDoor
open Go.RowKit Go.Shelf Go.Sort

/-- Where the body begins behind a head's first byte, and its size. -/
def cutAt (told : Nat) (s : ByteArray) : Option (Nat × Nat) :=
  if told < 56 then (if s.size < told then none else some (0, told))
  else if s.size < told - 55 then none
  else if vE (s.extract 0 (told - 55)) = 0 ∧ 56 ≤ vN (s.extract 0 (told - 55)) ∧ vN (s.extract 0 (told - 55)) ≤ s.size - (told - 55) then some (told - 55, vN (s.extract 0 (told - 55))) else none
def cbR (s : ByteArray) : Option (Nat × Nat) → Value
  | none => .tuple #[.string ⟨#[]⟩, .string ⟨#[]⟩, .bool false]
  | some (d, n) => .tuple #[.string (s.extract d (d + n)), .string (s.extract (d + n) s.size), .bool true]
theorem vE_or (s : ByteArray) : vE s = 0 ∨ vE s = 40 := by
  unfold vE
  split
  · exact .inl rfl
  · exact .inr rfl

set_option maxRecDepth 20000 in
set_option maxHeartbeats 2000000 in
theorem cutBody_any (told : Nat) (s : ByteArray) (ht : told < 64) (hs : s.size < 1000000000000000000) (w : World) :
    Calls Tryd.prog 148 #[.int .i64 told, .string s] w fun e w' => e = .returned (cbR s (cutAt told s)) ∧ Below w.heap.size w w' := by
  have BW : Below w.heap.size w w := Below.refl _ _
  obtain ⟨co, hco⟩ : ∃ c, cutAt told s = c := ⟨_, rfl⟩
  rw [hco]
  have HE : Hid (co = (if told < 56 then (if s.size < told then none else some (0, told))
    else if s.size < told - 55 then none
    else if vE (s.extract 0 (told - 55)) = 0 ∧ 56 ≤ vN (s.extract 0 (told - 55)) ∧ vN (s.extract 0 (told - 55)) ≤ s.size - (told - 55) then some (told - 55, vN (s.extract 0 (told - 55))) else none)) := hco.symm
  clear hco
  go_enter Tryd.func148, Tryd.ntmps148
  by_cases h1 : told < 56
  · have l0 : (told : Int) < 56 := by omega
    by_cases h2 : s.size < told
    · have l1 : (s.size : Int) < told := by omega
      have HO : Hid (co = none) := HE.out.trans (by rw [if_pos h1, if_pos h2])
      go_wp2
      refine bodyPost_ret (v := .tuple #[.string ⟨#[]⟩, .string ⟨#[]⟩, .bool false]) (by simp [results, Tryd.results148, go_sem]) rfl ⟨by rw [HO.out]; rfl, Below.refl _ _⟩
    · have l1 : ¬ (s.size : Int) < told := by omega
      have HO : Hid (co = some (0, told)) := HE.out.trans (by rw [if_pos h1, if_neg h2])
      go_wp2
      refine wp_region_quiet_below (by kernel_rfl) (by kernel_rfl) ?_
      repeat (quiet_step (fail))
      refine wpQuiet_nil ?_
      intro w8 hw8
      have B8 : Below w.heap.size w w8 := by
        obtain ⟨p, rfl⟩ := hw8
        exact belowStep BW BW.size (below_regrown _ _ _)
      clear hw8 BW
      go_wp2
      refine bodyPost_ret (v := .tuple #[.string (s.extract 0 told), .string (s.extract told s.size), .bool true]) (by simp [results, Tryd.results148, go_sem]) rfl ⟨by rw [HO.out]; simp [cbR], B8⟩
  · have l0 : ¬ (told : Int) < 56 := by omega
    obtain ⟨d, hd⟩ : ∃ d, told - 55 = d := ⟨_, rfl⟩
    have wd : (told : Int) - 56 + 1 = d := by omega
    have hd8 : d < 9 ∧ 0 < d := by omega
    rw [hd] at HE
    clear hd
    by_cases h2 : s.size < d
    · have l1 : (s.size : Int) < d := by omega
      have HO : Hid (co = none) := HE.out.trans (by rw [if_neg h1, if_pos h2])
      go_wp2
      refine bodyPost_ret (v := .tuple #[.string ⟨#[]⟩, .string ⟨#[]⟩, .bool false]) (by simp [results, Tryd.results148, go_sem]) rfl ⟨by rw [HO.out]; rfl, Below.refl _ _⟩
    · have l1 : ¬ (s.size : Int) < d := by omega
      have HO : Hid (co = if vE (s.extract 0 d) = 0 ∧ 56 ≤ vN (s.extract 0 d) ∧ vN (s.extract 0 d) ≤ s.size - d then some (d, vN (s.extract 0 d)) else none) := HE.out.trans (by rw [if_neg h1, if_neg h2])
      clear HE
      have KV := value_any (s.extract 0 d)
      have hE := vE_or (s.extract 0 d)
      obtain ⟨v, hv⟩ : ∃ v, vN (s.extract 0 d) = v := ⟨_, rfl⟩
      obtain ⟨e, he⟩ : ∃ e, vE (s.extract 0 d) = e := ⟨_, rfl⟩
      rw [hv, he] at KV HO
      rw [he] at hE
      clear hv he
      go_wp2_with fail
      refine (KV _).mono ?_
      rintro e0 w1 ⟨rfl, B1⟩
      replace BW := B1
      clear B1 KV
      obtain ⟨r, hr⟩ : ∃ r, s.extract d s.size = r := ⟨_, rfl⟩
      have hrs : s.size - d = r.size := by rw [← hr]; simp
      have HR : Hid (r.extract 0 v = s.extract d (d + v) ∧ r.extract v r.size = s.extract (d + v) s.size ∨ r.size < v) := by
        by_cases h : r.size < v
        · exact .inr h
        · refine .inl ⟨?_, ?_⟩
          · rw [← hr, ByteArray.extract_extract]
            congr 1
            omega
          · rw [← hrs, ← hr, ByteArray.extract_extract]
            congr 1
            omega
      rw [hrs] at HO
      have hrb : r.size < 1000000000000000000 := by omega
      rcases hE with rfl | rfl
      · by_cases h3 : v < 56
        · have l3 : (v : Int) < 56 := by omega
          have HN : Hid (co = none) := HO.out.trans (if_neg (fun h => by omega))
          go_wp2
          refine bodyPost_ret (v := .tuple #[.string ⟨#[]⟩, .string ⟨#[]⟩, .bool false]) (by simp [results, Tryd.results148, go_sem]) rfl ⟨by rw [HN.out]; rfl, BW⟩
        · have l3 : ¬ (v : Int) < 56 := by omega
          by_cases h4 : r.size < v
          · have l4 : (r.size : Int) < v := by omega
            have HN : Hid (co = none) := HO.out.trans (if_neg (fun h => by omega))
            go_wp2
            refine bodyPost_ret (v := .tuple #[.string ⟨#[]⟩, .string ⟨#[]⟩, .bool false]) (by simp [results, Tryd.results148, go_sem]) rfl ⟨by rw [HN.out]; rfl, BW⟩
          · have l4 : ¬ (r.size : Int) < v := by omega
            have HN : Hid (co = some (d, v)) := HO.out.trans (if_pos ⟨rfl, by omega, by omega⟩)
            go_wp2
            refine wp_region_quiet_below (by kernel_rfl) (by kernel_rfl) ?_
            repeat (quiet_step (fail))
            refine wpQuiet_nil ?_
            intro w8 hw8
            have B8 : Below w.heap.size w w8 := by
              obtain ⟨p, rfl⟩ := hw8
              exact belowStep BW BW.size (below_regrown _ _ _)
            clear hw8 BW
            go_wp2
            obtain ⟨hr1, hr2⟩ := HR.out.resolve_right h4
            refine bodyPost_ret (v := .tuple #[.string (r.extract 0 v), .string (r.extract v r.size), .bool true]) (by simp [results, Tryd.results148, go_sem]) rfl ⟨by rw [HN.out, hr1, hr2]; rfl, B8⟩
      · have HN : Hid (co = none) := HO.out.trans (if_neg (fun h => by omega))
        go_wp2
        refine bodyPost_ret (v := .tuple #[.string ⟨#[]⟩, .string ⟨#[]⟩, .bool false]) (by simp [results, Tryd.results148, go_sem]) rfl ⟨by rw [HN.out]; rfl, BW⟩
end Go.Proofs.YtmefanagpkbjeaaDoor
