/- Lemmas: An item and all that is within it, gone through. -/
import Derived.Test.YtmefanagpkbjeaaDoorM1
import Derived.Test.YtmefanagpkbjeaaDoorM10
import Derived.Test.YtmefanagpkbjeaaDoorM11
import Derived.Test.YtmefanagpkbjeaaDoorM2
import Derived.Test.YtmefanagpkbjeaaDoorM3
import Derived.Test.YtmefanagpkbjeaaDoorM6
import Derived.Test.YtmefanagpkbjeaaDoorM7
import Derived.Test.YtmefanagpkbjeaaDoorM8
import Derived.Test.YtmefanagpkbjeaaDoorM9
import Derived.Test.YtmefanagpkbjeaaDoorRows
import Derived.Lib.Builder
namespace Go.Proofs.YtmefanagpkbjeaaDoor
open Go.RowKit Go.Shelf
attribute [local go_sem] Oper.semAt_some

mutual
/-- An item and all within it, each ahead of those of its own list, with how deep it is. -/
def pro (d : Nat) : Im → List (Nat × Im)
  | .mk l t a c xs => (d, .mk l t a c xs) :: pros (d + 1) xs
def pros (d : Nat) : List Im → List (Nat × Im)
  | [] => []
  | x :: r => pro d x ++ pros d r
end
theorem pro_eq (d : Nat) (x : Im) : pro d x = (d, x) :: pros (d + 1) x.xs := by cases x; rfl
mutual
theorem pro_len (d : Nat) : ∀ x, (pro d x).length = cnt x
  | .mk l t a c xs => by
    show (pros (d + 1) xs).length + 1 = cnts xs + 1
    rw [pros_len (d + 1) xs]
theorem pros_len (d : Nat) : ∀ xs, (pros d xs).length = cnts xs
  | [] => rfl
  | x :: r => by
    show (pro d x ++ pros d r).length = cnt x + cnts r
    rw [List.length_append, pro_len d x, pros_len d r]
end
theorem pros_snoc (d : Nat) (xs : List Im) : ∀ (j : Nat) (x : Im), xs[j]? = some x → pros d (xs.take (j + 1)) = pros d (xs.take j) ++ pro d x := by
  induction xs with
  | nil => intro j x h; cases h
  | cons y r ih =>
    intro j x h
    cases j with
    | zero => cases h; show pro d y ++ [] = [] ++ pro d y; simp
    | succ j =>
      show pro d y ++ pros d (r.take (j + 1)) = (pro d y ++ pros d (r.take j)) ++ pro d x
      rw [ih j x h, List.append_assoc]
theorem pros_split (d : Nat) (xs : List Im) : ∀ (j : Nat) (x : Im), xs[j]? = some x → ∃ r, pros d xs = pros d (xs.take j) ++ (pro d x ++ r) := by
  induction xs with
  | nil => intro j x h; cases h
  | cons y t ih =>
    intro j x h
    cases j with
    | zero => cases h; exact ⟨pros d t, rfl⟩
    | succ j =>
      obtain ⟨r, hr⟩ := ih j x h
      refine ⟨r, ?_⟩
      show pro d y ++ pros d t = (pro d y ++ pros d (t.take j)) ++ _
      rw [hr, List.append_assoc]
theorem pros_take (d : Nat) (xs : List Im) (j : Nat) (x : Im) (h : xs[j]? = some x) (q : Nat) (hq : q ≤ cnt x) : (pros d xs).take (cnts (xs.take j) + q) = pros d (xs.take j) ++ (pro d x).take q := by
  obtain ⟨r, hr⟩ := pros_split d xs j x h
  have h1 := pros_len d (xs.take j)
  have h2 := pro_len d x
  rw [hr, ← h1, List.take_length_add_append, List.take_append_of_le_length (by omega)]
theorem cnts_take (xs : List Im) : ∀ j, cnts (xs.take j) ≤ cnts xs := by
  induction xs with
  | nil => intro j; simp [cnts]
  | cons y r ih =>
    intro j
    cases j with
    | zero => exact Nat.zero_le _
    | succ j => exact Nat.add_le_add_left (ih j) _
theorem cnts_snoc (xs : List Im) : ∀ (j : Nat) (x : Im), xs[j]? = some x → cnts (xs.take (j + 1)) = cnts (xs.take j) + cnt x := by
  induction xs with
  | nil => intro j x h; cases h
  | cons y r ih =>
    intro j x h
    cases j with
    | zero => cases h; simp [cnts]
    | succ j =>
      show cnt y + cnts (r.take (j + 1)) = cnt y + cnts (r.take j) + cnt x
      rw [ih j x h]
      omega
theorem pros_mem (d : Nat) (xs : List Im) (j : Nat) (x : Im) (h : xs[j]? = some x) (e : Nat × Im) (he : e ∈ pro d x) : e ∈ pros d xs := by
  induction xs generalizing j with
  | nil => cases h
  | cons y r ih =>
    show e ∈ pro d y ++ pros d r
    cases j with
    | zero => cases h; exact List.mem_append_left _ he
    | succ j => exact List.mem_append_right _ (ih j h)
/-- What a round keeps: what lay below n, and items in boxes. -/
structure ItK (n : Nat) (W W' : World) : Prop where
  b : Below n W W'
  i : ∀ (k : Nat) (c : Array Value) (fz : Nat × Nat), W.heap[k]? = some (.cells c 70 fz) → W'.heap[k]? = some (.cells c 70 fz)
theorem ItK.trans {n : Nat} {A B C : World} (h : ItK n A B) (g : ItK n B C) : ItK n A C := ⟨h.b.trans g.b, fun k c fz hk => g.i k c fz (h.i k c fz hk)⟩
theorem ItK.of_below {n : Nat} {W W' : World} (hn : n ≤ W.heap.size) (h : Below W.heap.size W W') : ItK n W W' := ⟨h.mono hn, fun k _ _ hk => (h.block k (Array.getElem?_eq_some_iff.1 hk).1).trans hk⟩
theorem ItK.refl (n : Nat) (W : World) : ItK n W W := ⟨Below.refl _ _, fun _ _ _ h => h⟩
/-- What is handed on. -/
def wEnc (e : Nat × Im) : Array Value := #[.int .i64 e.1, e.2.val]
theorem grown_of {W W' : World} (h : Below W.heap.size W W') : W.grownBy W' none := ⟨h.os, h.tape, h.output, h.size, fun k hk _ => h.block k hk⟩
theorem room_of_none' {FN : Fence} (hd : FN.depth = none) (k : Nat) : FN.room k := fun d h => by rw [hd] at h; cases h
theorem yieldAny {m : Nat} (m' : Nat) {P : Program} {l : Nat} {args : Array Value} {W : World} {R : Ending → World → Prop} (h : YieldAt Fence.wide m P l args W R) : YieldAt Fence.wide m' P l args W R := by
  obtain ⟨fn, tmps, assign, body, hy, hR⟩ := h
  exact ⟨fn, tmps, assign, body, hy, hR.1, fun c cs _ => hR.2 c cs (room_of_none' rfl _)⟩

theorem len_cnts : ∀ xs : List Im, xs.length ≤ cnts xs
  | [] => Nat.le_refl _
  | x :: r => by
    have h := len_cnts r
    have h1 := cnt_eq x
    show r.length + 1 ≤ cnt x + cnts r
    omega

set_option maxRecDepth 100000 in
set_option maxHeartbeats 4000000 in
theorem yieldWithin_in (l n0 B Nm : Nat) (Mem : Nat × Im → Prop) (J Jx : List (Nat × Im) → World → Prop) (hJ : AbidesFrom B J)
    (hY : ∀ m pre e W, J pre W → pre.length < Nm → Mem e → n0 ≤ W.heap.size → YieldAt Fence.wide m Tryd.prog l (wEnc e) W fun e' W' =>
      (e' = .returned (.bool true) ∧ J (pre ++ [e]) W' ∧ ItK n0 W W') ∨ (e' = .returned (.bool false) ∧ Jx (pre ++ [e]) W')) :
    ∀ (N : Nat) (x : Im) (d : Nat) (pre : List (Nat × Im)) (W : World) (n : Nat), cnt x ≤ N → d + cnt x < 1000000000000000000 → (∀ e, e ∈ pro d x → Mem e) → pre.length + cnt x ≤ Nm → n0 ≤ W.heap.size → inMem n0 W x → J pre W →
      CallsIn Fence.wide n Tryd.prog 120 #[x.val, .int .i64 d, .func (.yield l) #[] #[]] W fun e W' =>
        (e = .returned (.bool true) ∧ J (pre ++ pro d x) W' ∧ ItK n0 W W') ∨ (e = .returned (.bool false) ∧ ∃ q, q ≤ cnt x ∧ Jx (pre ++ (pro d x).take q) W')
  | 0, x, _, _, _, _, h, _, _, _, _, _, _ => by rw [cnt_eq] at h; omega
  | N + 1, x, d, pre, W, n, hc, hd, hM, hN, hW, hm, h0 => by
    have a0 : ∀ o, Below W.heap.size W (W.alloc o) := fun o => (Below.refl _ W).alloc (Nat.le_refl _) o
    have IH := yieldWithin_in l n0 B Nm Mem J Jx hJ hY N
    rw [pro_eq] at hM ⊢
    obtain ⟨d1, hd1⟩ : ∃ d1, d + 1 = d1 := ⟨_, rfl⟩
    rw [hd1] at hM ⊢
    rw [cnt_eq] at hc hd hN
    obtain ⟨il, it, ia, ic, xs⟩ := x
    replace hm : rowMem n0 W ia 0 xs := hm
    replace hc : cnts xs + 1 ≤ N + 1 := hc
    replace hd : d + (cnts xs + 1) < 1000000000000000000 := hd
    replace hN : pre.length + (cnts xs + 1) ≤ Nm := hN
    have hW0 : W.heap.size < (W.alloc (.cells #[.bool il, .string it, .slice ia xs.length ic] 70)).heap.size := by simp
    show CallsIn Fence.wide n Tryd.prog 120 #[.agg #[.bool il, .string it, .slice ia xs.length ic], .int .i64 d, .func (.yield l) #[] #[]] W _
    refine callsIn_of_wp Tryd.func120 rfl trivial ?_ rfl
    simp only [Tryd.ntmps120, List.size_toArray, List.length_cons, List.length_nil, Nat.reduceAdd, Nat.reduceSub, Array.replicate_succ, Array.replicate_zero, List.push_toArray, List.append_toArray, List.nil_append, List.cons_append]
    have A0 := a0 (.cells #[.bool il, .string it, .slice ia xs.length ic] 70)
    have J1 := hJ _ _ _ none h0 (grown_of A0) (fun r h => by cases h)
    obtain ⟨fn, tmps, assign, bdy, hy, hR⟩ := hY (n - 1) pre (d, .mk il it ia ic xs) _ J1 (by omega) (hM _ (List.mem_cons_self ..)) (by simp; omega)
    replace hy : (_ : Sem _).run Tryd.prog _ = _ := hy
    unfold wEnc at hy
    simp only [Im.val, Im.l, Im.t, Im.sl, Im.a, Im.xs, Im.c] at hy
    have hbx : (W.alloc (.cells #[.bool il, .string it, .slice ia xs.length ic] 70)).heap[W.heap.size]? = some (.cells #[.bool il, .string it, .slice ia xs.length ic] 70 (0, 0)) := World.alloc_heap_new W _
    gi_wp2
    refine ⟨fun h => (by cases h), hR.mono ?_⟩
    rintro e W3 (⟨rfl, hJ3, hk3⟩ | ⟨rfl, hJx3⟩)
    · have k3 : ItK n0 W W3 := (ItK.of_below hW A0).trans hk3
      have hbx3 := hk3.i _ _ _ hbx
      have x2 : W3.cell? ⟨W.heap.size, 2, none⟩ = some (.slice ia xs.length ic) := by rw [Lib.cell_of_heap hbx3]; rfl
      have hw3 : n0 ≤ W3.heap.size := Nat.le_trans hW k3.b.size
      clear hy hR hk3 hbx hbx3
      obtain ⟨Nx, hNx⟩ : ∃ N, xs.length = N := ⟨_, rfl⟩
      rw [hNx] at x2
      have HX : Hid (_ ∧ _ ∧ _) := ⟨hJ3, k3, hNx⟩
      clear hJ3 k3 hNx J1 A0 a0 hW0 h0
      have wd : IntKind.i64.wrap ((d : Int) + 1) = d1 := by rw [IntKind.wrap_i64]; omega
      have wd2 : (d : Int) + 1 = d1 := by omega
      gi_wp2
      gi_loopw [17] (fun i wr => ∃ k : Nat, k ≤ Nx ∧ i = .int .i64 (k : Int) ∧ J (pre ++ ((d, .mk il it ia ic xs) :: pros d1 (xs.take k))) wr ∧ ItK n0 W wr)
        (fun i _ => (Nx - (intOf i).toNat))
      case atStart => exact ⟨0, by omega, rfl, HX.out.1, HX.out.2.1⟩
      case round =>
        obtain ⟨k, hk, rfl, hJs, hks⟩ := hrel
        have hNb : Nx ≤ cnts xs := by rw [← HX.out.2.2]; exact len_cnts xs
        have hwr : n0 ≤ wr.heap.size := Nat.le_trans hW hks.b.size
        by_cases hlt : k < Nx
        · have l0 : (k : Int) < Nx := by omega
          obtain ⟨y, hy⟩ : ∃ y, xs[k]? = some y := ⟨xs[k]'(by have := HX.out.2.2; omega), List.getElem?_eq_getElem (by have := HX.out.2.2; omega)⟩
          obtain ⟨⟨b, o, hb, rfl, c0, c1, c2⟩, hy2⟩ := row_at xs 0 hm k y hy
          have hy3 := inMem_below hW hks.b y hy2
          replace c0 := (hks.b.cell (p := ⟨b, _, none⟩) hb).trans c0
          replace c1 := (hks.b.cell (p := ⟨b, _, none⟩) hb).trans c1
          replace c2 := (hks.b.cell (p := ⟨b, _, none⟩) hb).trans c2
          obtain ⟨p, hp⟩ : ∃ p, o + 3 * k = p := ⟨_, rfl⟩
          rw [show o + 3 * (0 + k) = p by omega] at c0 c1 c2
          have hp2 : o + k * 3 = p := by omega
          have wk : IntKind.i64.wrap ((k : Int) + 1) = ((k + 1 : Nat) : Int) := by rw [IntKind.wrap_i64]; omega
          have hcy := cnts_at xs k y hy
          have hcs := cnts_snoc xs k y hy
          have hct := cnts_take xs (k + 1)
          have hps := pros_snoc d1 xs k y hy
          have hpl := pros_len d1 (xs.take k)
          have hpt : Hid (∀ q, q ≤ cnt y → _) := fun q hq => pros_take d1 xs k y hy q hq
          have hmem : ∀ e, e ∈ pro d1 y → Mem e := fun e he => hM e (List.mem_cons_of_mem _ (pros_mem d1 xs k y hy e he))
          have IHy := IH y d1
          obtain ⟨yl, yt, ya, yc, yx⟩ := y
          simp only [Im.l, Im.t, Im.sl, Im.a, Im.xs, Im.c] at c0 c1 c2
          have A1 : Below wr.heap.size wr (wr.alloc (.cells #[.bool yl, .string yt, .slice ya yx.length yc] 70)) := (Below.refl _ wr).alloc (Nat.le_refl _) _
          have J1 := hJ _ _ _ none hJs (grown_of A1) (fun r h => by cases h)
          have m1 := inMem_below hwr (A1.mono hwr) _ hy3
          have HH : Hid (_ ∧ _ ∧ _ ∧ _) := ⟨hps, hks, A1, J1⟩
          clear hps hks A1 J1 hJs
          gi_wp2_with fail
          refine ⟨trivial, fun h => (by cases h), (IHy (pre ++ ((d, .mk il it _ ic xs) :: pros d1 (xs.take k))) (wr.alloc (.cells #[.bool yl, .string yt, .slice ya yx.length yc] 70)) (n - 1) (by omega) (by omega) hmem (by rw [List.length_append, List.length_cons, hpl]; omega) (by simp; omega) m1 HH.out.2.2.2).mono ?_⟩
          rintro e W4 (⟨rfl, hJ4, hk4⟩ | ⟨rfl, q, hq, hJx4⟩)
          · gi_wp2
            go_roundw
            case rel =>
              obtain ⟨hps, hks, A1, _⟩ := HH.out
              refine ⟨k + 1, by omega, rfl, ?_, (hks.trans (ItK.of_below hwr A1)).trans hk4⟩
              rw [hps]
              rw [List.append_assoc, List.cons_append] at hJ4
              exact hJ4
            case measure => simp [intOf]; omega
          · gi_wp2
            go_ret
            refine .inr ⟨rfl, 1 + cnts (xs.take k) + q, ?_, ?_⟩
            · show _ ≤ cnts xs + 1
              omega
            · rw [show 1 + cnts (xs.take k) + q = (cnts (xs.take k) + q) + 1 by omega, List.take_succ_cons]
              have hz := hpt.out q hq
              rw [List.append_assoc, List.cons_append] at hJx4
              show Jx (pre ++ (d, _) :: (pros d1 xs).take _) W4
              rw [hz]
              exact hJx4
        · have hk2 : k = Nx := by omega
          subst hk2
          have l0 : ¬ (k : Int) < k := by omega
          rw [← HX.out.2.2, List.take_length] at hJs
          gi_wp2
          go_ret
          exact .inl ⟨rfl, hJs, hks⟩
    · clear hy hR
      gi_wp2
      go_ret
      refine .inr ⟨rfl, 1, Nat.le_add_left _ _, ?_⟩
      rw [List.take_succ_cons, List.take_zero]
      exact hJx3
end Go.Proofs.YtmefanagpkbjeaaDoor
