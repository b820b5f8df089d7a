/- A list of 17 under way: the state of a round. -/
import Derived.Test.YtbmapdkcccdmfaaGreatDoorM1
import Derived.Test.YtbmapdkcccdmfaaGreatDoorM10
import Derived.Test.YtbmapdkcccdmfaaGreatDoorM11
import Derived.Test.YtbmapdkcccdmfaaGreatDoorM12
import Derived.Test.YtbmapdkcccdmfaaGreatDoorM13
import Derived.Test.YtbmapdkcccdmfaaGreatDoorM14
import Derived.Test.YtbmapdkcccdmfaaGreatDoorM15
import Derived.Test.YtbmapdkcccdmfaaGreatDoorM17
import Derived.Test.YtbmapdkcccdmfaaGreatDoorM18
import Derived.Test.YtbmapdkcccdmfaaGreatDoorM19
import Derived.Test.YtbmapdkcccdmfaaGreatDoorM2
import Derived.Test.YtbmapdkcccdmfaaGreatDoorM20
import Derived.Test.YtbmapdkcccdmfaaGreatDoorM21
import Derived.Test.YtbmapdkcccdmfaaGreatDoorM22
import Derived.Test.YtbmapdkcccdmfaaGreatDoorM23
import Derived.Test.YtbmapdkcccdmfaaGreatDoorM24
import Derived.Test.YtbmapdkcccdmfaaGreatDoorM25
import Derived.Test.YtbmapdkcccdmfaaGreatDoorM26
import Derived.Test.YtbmapdkcccdmfaaGreatDoorM3
import Derived.Test.YtbmapdkcccdmfaaGreatDoorM32
import Derived.Test.YtbmapdkcccdmfaaGreatDoorM33
import Derived.Test.YtbmapdkcccdmfaaGreatDoorM34
import Derived.Test.YtbmapdkcccdmfaaGreatDoorM35
import Derived.Test.YtbmapdkcccdmfaaGreatDoorM36
import Derived.Test.YtbmapdkcccdmfaaGreatDoorM37
import Derived.Test.YtbmapdkcccdmfaaGreatDoorM38
import Derived.Test.YtbmapdkcccdmfaaGreatDoorM4
import Derived.Test.YtbmapdkcccdmfaaGreatDoorM40
import Derived.Test.YtbmapdkcccdmfaaGreatDoorM6
import Derived.Test.YtbmapdkcccdmfaaGreatDoorM7
import Derived.Test.YtbmapdkcccdmfaaGreatDoorM8
import Derived.Test.YtbmapdkcccdmfaaGreatDoorM9
import Derived.Test.YtbmapdkcccdmfaaGreatDoorRows
namespace Go.Proofs.YtbmapdkcccdmfaaGreatDoor
open Go.RowKit Go.Shelf Go.Sort

theorem region_inv_tail_in {P : Program} (l' n' n : Nat) {id : Nat} {Q : Exit → Act → World → Prop} {a : Act} {w : World} {l : List Oper} (hL : ¬ LetsOut Q) (hnd : noDefer l.toArray = true) (J : (Nat → Bool) → Act → World → Prop) (hm : P.follows .mixedOrders = true)
  (hB : invTailB l.toArray n = true) (h0 : J (fun _ => false) a w.drew)
  (step : ∀ i o S a W, i < n → l[i]? = some o → S i = false → J S a W → (∀ e ∈ o.after, Region.binds .any e = true → S e.on = true) → ∀ K : Act → World → Prop, (∀ a W, J (more S i) a W → K a W) →
   if Region.wanted o (yielded l.toArray a.tmps) then o.wp P a W K Q else K (a.put o.dst undef) W)
  (last : ∀ S a W, (∀ i, i < n → S i = true) → J S a W → wpList P l.toArray Q (l.drop n) a W) : (Code.region id l.toArray true).wpIn (Fence.wide.inRound l') n' P Q a w :=
 region_round l' n' hm hnd hL (inv_tail_any n J hB h0 step last)

def IsC (p : Nat → Prop) (W : World) (b : Nat) : Prop := p b ∧ ∃ c e fz, W.heap[b]? = some (.cells c e fz)
theorem cell_isC {W : World} {b k : Nat} {v : Value} (h : W.cell? ⟨b, k, none⟩ = some v) : ∃ c e fz, W.heap[b]? = some (.cells c e fz) := by
 cases hb : W.heap[b]? with
 | none => simp [World.cell?, hb] at h
 | some o =>
  cases o <;> simp [World.cell?, hb] at h ⊢
mutual
theorem ndIn_cells {p : Nat → Prop} {W : World} : ∀ (n : Nd) (b : Nat), ndIn p W b n → ndIn (IsC p W) W b n
 | .mk _ ss, _, ⟨im, a, c, h1, h2, h3, h4, h5⟩ => ⟨im, a, c, ⟨h1, _, _, _, h2⟩, h2, h3, inP_cells im h4, stIn_of (fun _ hq => ⟨⟨⟨hq.1.1, hq.2⟩, hq.1.2⟩, rfl⟩) ss a 0 (stIn_cells ss a 0 h5)⟩
theorem stIn_cells {p : Nat → Prop} {W : World} : ∀ (s : Sts) (a : Option Addr) (i : Nat), stIn p W a i s → stIn (IsC p W) W a i s
 | .nil, _, _, _ => trivial
 | .cons _ n r, a, i, ⟨⟨b, o, b', h1, h2, h3, h4, h5⟩, h6⟩ => ⟨⟨b, o, b', ⟨h1, cell_isC h3⟩, h2, h3, h4, ndIn_cells n b' h5⟩, stIn_cells r a (i + 1) h6⟩
end
theorem ItsIn.cells {bI : Nat} {p : Nat → Prop} {W : World} {l : List It} (h : ItsIn bI p W l) : ItsIn bI (IsC p W) W l := by
 obtain ⟨cl, ims, h1, h2, h3, h4, h5⟩ := h
 exact ⟨cl, ims, h1, h2, h3, h4, fun y hy => inP_cells y (h5 y hy)⟩
theorem StsIn.cells {z : Nat} {p : Nat → Prop} {W : World} {sv : Value} {ks : List (Int × Nd)} (h : StsIn z p W sv ks) : StsIn z (IsC p W) W sv ks := by
 obtain ⟨bs, h1, h2, h3⟩ := h
 exact ⟨bs, h1, h2, fun j k b hk hb => ndIn_cells _ _ (h3 j k b hk hb)⟩

def NB (zD bI bX bS : Nat) (sv : Value) (W : World) (k : Nat) : Prop := zD < k ∧ k < W.heap.size ∧ k ≠ bI ∧ k ≠ bX ∧ k ≠ bS ∧ sv.ownBlock ≠ some k
def FS (zD bI bX bS zS d : Nat) (v : ByteArray) (w : World) (ks : List (Int × Nd)) (W : World) : Prop := ∃ sv, Bx zD 3 (.int .i64 d) W ∧ Bx bX 48 (.slice (some ⟨bI, 0, none⟩) 17 17) W ∧ Bx bS 59 sv W ∧ ItsIn bI (NB zD bI bX bS sv W) W (fkI v ks) ∧ StsIn zS (NB zD bI bX bS sv W) W sv ks ∧ Below zD w W
theorem FS.own {zD bI bX bS zS d : Nat} {v : ByteArray} {w A C : World} {ks : List (Int × Nd)} {row : Option Nat} (h : FS zD bI bX bS zS d v w ks A) (hg : A.grownBy C row) (hr : ∀ r, row = some r → zD ≤ r ∧ ∃ o : Obj, A.heap[r]? = some o ∧ o.isCells = false) : FS zD bI bX bS zS d v w ks C := by
 obtain ⟨sv, h1, h2, h3, h4, h5, h6⟩ := h
 have hl := h1.lt
 have hno : ∀ b, (∃ c e fz, A.heap[b]? = some (.cells c e fz)) → some b ≠ row := fun b hb e => by
  obtain ⟨c, t, fz, hb⟩ := hb
  obtain ⟨_, o, ho, hc⟩ := hr b e.symm
  rw [hb] at ho
  cases ho
  cases hc
 have hp : ∀ b, IsC (NB zD bI bX bS sv A) A b → NB zD bI bX bS sv C b ∧ b < A.heap.size ∧ some b ≠ row := fun b hb => by
  obtain ⟨⟨b1, b2, b3⟩, hc⟩ := hb
  have := hg.size
  exact ⟨⟨b1, by omega, b3⟩, b2, hno b hc⟩
 refine ⟨sv, h1.own hg (fun r e => (hr r e).2), h2.own hg (fun r e => (hr r e).2), h3.own hg (fun r e => (hr r e).2), h4.cells.own hg (fun e => ?_) hp, h5.cells.own hg ?_ hp, h6.grown hg (by omega) (fun k e => (hr k e).1)⟩
 ·obtain ⟨cl, ims, hq, _⟩ := h4
  obtain ⟨c, hk⟩ := owns_kind hq (k := bI) rfl
  exact hno bI ⟨c, _, _, hk⟩ e.symm
 ·obtain ⟨bs, _, hq, _⟩ := h5
  cases e : sv.ownBlock with
  | none => exact .inl rfl
  | some k =>
   obtain ⟨c, hk⟩ := owns_kind hq e
   exact .inr (hno k ⟨c, _, _, hk⟩)
end Go.Proofs.YtbmapdkcccdmfaaGreatDoor
namespace Go.Proofs.YtbmapdkcccdmfaaGreatDoor
open Go.RowKit Go.Shelf Go.Sort
attribute [local go_sem] Oper.semAt_some

structure FkK (w4 : World) (bI bN : Nat) (hn : Nat) (nd : Nd) (p : Nat → Prop) (hp : ∀ k, p k → k < w4.heap.size) (S : Nat → Bool) (x36 x37 x38 x39 : Value) (W : World) : Prop where
 e : Below w4.heap.size w4 W
 f0 : S 0 = true → x36 = Value.slice (some ⟨bI, 0, none⟩) 17 17
 f1 : S 1 = true → x37 = Value.int .u8 (hn : Int)
 f2 : S 2 = true → x38 = Value.pointer (some ⟨bN, 0, none⟩)
 f3 : S 3 = true → ∃ im : Im, x39 = im.val ∧ er im = refI nd.x ∧ inP p W im
theorem FkK.grow {w4 : World} {bI bN : Nat} {hn : Nat} {nd : Nd} {p : Nat → Prop} {hp : ∀ k, p k → k < w4.heap.size} {S : Nat → Bool} {x36 x37 x38 x39 : Value} {W W' : World} (h : FkK w4 bI bN hn nd p hp S x36 x37 x38 x39 W) (hb : Below W.heap.size W W') : FkK w4 bI bN hn nd p hp S x36 x37 x38 x39 W' :=
 ⟨belowStep h.e h.e.size hb, h.f0, h.f1, h.f2, fun s => (let ⟨im, h1, h2, h3⟩ := (h.f3 s); ⟨im, h1, h2, inP_of (fun k hk => ⟨hk, fun j => hb.cell (p := ⟨k, j, none⟩) (Nat.lt_of_lt_of_le (hp k hk) h.e.size)⟩) _ h3⟩)⟩
theorem info_step : (Tryz.prog.info? 117).map (fun i => (i.zero, i.size, i.bytes)) = some (some (.agg #[.string ⟨#[]⟩, .pointer none]), 2, 24) := by kernel_rfl
set_option maxRecDepth 100000 in
set_option maxHeartbeats 4000000 in
theorem fork_of (f : Nat) (KN : NdC f) : FkC f := by
 intro d es hf hok h2 htb b o c w hl hb hcap hp
 have HNC : Hid (NdC f) := KN
 have hl' := hl
 clear KN
 obtain ⟨i0, hi0, hz0, hz1, hz2⟩ := info_parts info_item
 obtain ⟨k1, k2, k3, k4⟩ := hok.rest h2
 obtain ⟨e, he⟩ : ∃ e, es[0]? = some e := ⟨es[0]'(by omega), List.getElem?_eq_getElem (by omega)⟩
 have pe := hp _ e he
 have c0 : w.cell? ⟨b, o, none⟩ = some (.string e.1) := pe.1
 have c1 : w.cell? ⟨b, o + 1, none⟩ = some (.string e.2) := pe.2
 have hd128 : d ≤ 128 := by have := hok.sz _ e he; omega
 have hfew := hok.few
 obtain ⟨N, hN⟩ : ∃ N, es.length = N := ⟨_, rfl⟩
 have HN : Hid (es.length = N) := hN
 rw [hN] at hcap h2 hfew ⊢
 clear hN
 have l0 : (0 : Int) < N := by omega
 refine (callsIn_wide (n := 9)).1 ?_
 refine callsIn_of_wp_marks Tryz.func94 rfl trivial ?_ rfl
 refine wpIn_wide.2 ?_
 simp only [Tryz.ntmps94, List.size_toArray, List.length_cons, List.length_nil, Nat.reduceAdd, Nat.reduceSub, Array.replicate_succ, Array.replicate_zero, List.push_toArray, List.append_toArray, List.nil_append, List.cons_append]
 have A1 := be_new w (.cells #[.int .i64 d] 3)
 have hD1 : Bx w.heap.size 3 (.int .i64 d) (w.alloc (.cells #[.int .i64 d] 3)) := World.alloc_heap_new w _
 go_wp2_with (at_make; refine wpList_make_full _ rfl _ _ 48 rfl (w.heap.size + 1) 50 i0 _ 3 Tryz.underlying48 hi0 hz0 hz1 .i64 .i64 _ _ 17 rfl rfl rfl rfl (by rw [hz2]; omega) (by unfold maxLen; omega) (by simp) ?_; intro w1 hown hgr)
 have hsz1 : (w.alloc (.cells #[.int .i64 d] 3)).heap.size = w.heap.size + 1 := by simp
 rw [hsz1] at hown
 have B1 := belowStep A1 A1.size ((Below.refl _ (w.alloc (.cells #[.int .i64 d] 3))).grown hgr (Nat.le_refl _) (fun _ e => by cases e))
 have hD2 : Bx w.heap.size 3 (.int .i64 d) w1 := (hgr.block _ hD1.lt (fun e => by cases e)).trans hD1
 have hs1 : w.heap.size + 1 < w1.heap.size := (hown.lt _ rfl).2
 have A2 := be_new w1 (.cells #[.slice (some ⟨w.heap.size + 1, 0, none⟩) 17 17] 48)
 have hX2 : Bx w1.heap.size 48 (.slice (some ⟨w.heap.size + 1, 0, none⟩) 17 17) (w1.alloc (.cells #[.slice (some ⟨w.heap.size + 1, 0, none⟩) 17 17] 48)) := World.alloc_heap_new w1 _
 have hD3 : Bx w.heap.size 3 (.int .i64 d) (w1.alloc (.cells #[.slice (some ⟨w.heap.size + 1, 0, none⟩) 17 17] 48)) := (A2.block _ hD2.lt).trans hD2
 have B2 := belowStep B1 B1.size A2
 have hown2 := owns_below hown A2
 clear hown hgr hD1 hD2 A1 A2 B1
 obtain ⟨X, hX⟩ : ∃ x, w1.alloc (.cells #[.slice (some ⟨w.heap.size + 1, 0, none⟩) 17 17] 48) = x := ⟨_, rfl⟩
 obtain ⟨bX, hbX⟩ : ∃ x, w1.heap.size = x := ⟨_, rfl⟩
 rw [hX, hbX] at hX2
 rw [hX] at hD3 B2 hown2
 rw [hbX] at hs1
 rw [hX, hbX]
 clear hX hbX
 obtain ⟨zD, hzD⟩ : ∃ x, w.heap.size = x := ⟨_, rfl⟩
 obtain ⟨bI, hbI⟩ : ∃ x, w.heap.size + 1 = x := ⟨_, rfl⟩
 have HZ : Hid (w.heap.size = zD ∧ zD + 1 = bI) := ⟨hzD, by omega⟩
 rw [hbI] at hown2 hX2 hs1
 rw [hzD] at hD3 B2 hb
 rw [hbI, hzD]
 clear hzD hbI
 rename_i KR hKR KI hKI
 have hI3 := its_new (fun _ => False) hown2
 clear hown2
 have FIN : ∀ (rs : List Pr) (v : ByteArray) (o' M c' : Nat) (x11 x12 x13 x14 x15 x16 x17 x18 x19 x20 x21 x22 x23 x24 x25 x26 : Value) (W : World), rsE d es = rs → vlE d es = v → rs.length = M → M ≤ c' → prs W b o' rs → Below zD w W → Bx zD 3 (.int .i64 d) W → Bx bX 48 (.slice (some ⟨bI, 0, none⟩) 17 17) W → ItsIn bI (fun _ => False) W (List.replicate 16 zIt ++ [.mk false v []]) →
   KR { tmps := #[.slice (some ⟨b, o', none⟩) M c', .int .i64 d, undef, .pointer (some ⟨zD, 0, none⟩), .pointer none, .pointer (some ⟨bX, 0, none⟩), undef, undef, undef, undef, .slice (some ⟨bI, 0, none⟩) 17 17, x11, x12, x13, x14, x15, x16, x17, x18, x19, x20, x21, x22, x23, x24, x25, x26, undef, undef, undef, undef, undef, undef, undef, undef, undef, undef, undef, undef, undef, undef, undef, undef, undef, undef, undef, undef, undef, undef, undef, undef, undef], defers := [] } W := by
  intro rs v o' M c' x11 x12 x13 x14 x15 x16 x17 x18 x19 x20 x21 x22 x23 x24 x25 x26 W hrs hv hM hMc hpr BW hD hX hI
  rw [hrs] at k1 k2
  rw [hv] at k3
  have hMl := k1.few
  have hM1 := k1.pos
  rw [hM] at hMl hM1
  have KP := parted_any (some ⟨b, o', none⟩) M c' d
  have A3 := be_new W (.cells #[.slice none 0 0] 59)
  have hS3 : Bx W.heap.size 59 (.slice none 0 0) (W.alloc (.cells #[.slice none 0 0] 59)) := World.alloc_heap_new W _
  have hD3 := (A3.block _ hD.lt).trans hD
  have hX3 := (A3.block _ hX.lt).trans hX
  have hI3 := hI.own (grown_of A3) (by simp) (q := fun _ => False) (fun _ h => h.elim)
  have hpr3 := prs_below A3 (Nat.lt_trans hb hD.lt) hpr
  have BW3 : Below zD w (W.alloc (.cells #[.slice none 0 0] 59)) := belowStep BW (Nat.le_of_lt hD.lt) A3
  have hzl := hD.lt
  have hxl := hX.lt
  have hil := hI.lt
  have cD : (W.alloc (.cells #[.slice none 0 0] 59)).cell? ⟨zD, 0, none⟩ = some (.int .i64 d) := Bx.cell hD3
  refine hKR _ _ ?_
  go_wp2_with fail
  refine wpOfC (fun Y => Below zD w Y ∧ Bx W.heap.size 59 (.slice none 0 0) Y ∧ Bx zD 3 (.int .i64 d) Y ∧ Bx bX 48 (.slice (some ⟨bI, 0, none⟩) 17 17) Y ∧ ItsIn bI (fun _ => False) Y (List.replicate 16 zIt ++ [.mk false v []]) ∧ prs Y b o' rs) ⟨BW3, hS3, hD3, hX3, hI3, hpr3⟩ ?_
  rintro Y ⟨BY, hSY, hDY, hXY, hIY, hprY⟩
  obtain ⟨bS, hbS⟩ : ∃ x, W.heap.size = x := ⟨_, rfl⟩
  rw [hbS] at hSY hzl hxl hil ⊢
  clear A3 hS3 hD3 hX3 hI3 hpr3 BW3 cD hD hX hI hpr BW hbS
  refine (KP Y).mono ?_
  rintro e1 Y1 ⟨rfl, rfl⟩
  have A4 := be_new Y (.cells #[.slice (some ⟨b, o', none⟩) M c'] 114)
  have hE4 : Bx Y.heap.size 114 (.slice (some ⟨b, o', none⟩) M c') (Y.alloc (.cells #[.slice (some ⟨b, o', none⟩) M c'] 114)) := World.alloc_heap_new Y _
  have A5 := be_new (Y.alloc (.cells #[.slice (some ⟨b, o', none⟩) M c'] 114)) (.cells #[.int .i64 d] 3)
  have hY5 : Bx (Y.heap.size + 1) 3 (.int .i64 d) ((Y.alloc (.cells #[.slice (some ⟨b, o', none⟩) M c'] 114)).alloc (.cells #[.int .i64 d] 3)) := by
   have := World.alloc_heap_new (Y.alloc (.cells #[.slice (some ⟨b, o', none⟩) M c'] 114)) (.cells #[.int .i64 d] 3)
   rw [World.size_alloc] at this
   exact this
  have hE5 := (A5.block _ hE4.lt).trans hE4
  have A45 := belowStep A4 A4.size A5
  have hbY' : b < Y.heap.size := Nat.lt_trans hb hDY.lt
  go_wp2_with fail
  refine wpOf (fun V => Below zD w V ∧ Bx bS 59 (.slice none 0 0) V ∧ Bx zD 3 (.int .i64 d) V ∧ Bx bX 48 (.slice (some ⟨bI, 0, none⟩) 17 17) V ∧ ItsIn bI (fun _ => False) V (List.replicate 16 zIt ++ [.mk false v []]) ∧ prs V b o' rs ∧ Bx Y.heap.size 114 (.slice (some ⟨b, o', none⟩) M c') V ∧ Bx (Y.heap.size + 1) 3 (.int .i64 d) V)
   ⟨belowStep BY (Nat.le_of_lt hDY.lt) A45, (A45.block _ hSY.lt).trans hSY, (A45.block _ hDY.lt).trans hDY, (A45.block _ hXY.lt).trans hXY, hIY.own (grown_of A45) (by simp) (fun _ h => h.elim), prs_below A45 hbY' hprY, hE5, hY5⟩ ?_
  rintro V ⟨BV, hSV, hDV, hXV, hIV, hprV, hEV, hYV⟩
  have hSE := hSY.lt
  obtain ⟨bE, hbE⟩ : ∃ x, Y.heap.size = x := ⟨_, rfl⟩
  obtain ⟨bY, hbYe⟩ : ∃ x, Y.heap.size + 1 = x := ⟨_, rfl⟩
  rw [hbYe] at hYV ⊢
  rw [hbE] at hEV hSE hbYe hbY' ⊢
  clear A4 A5 A45 hE4 hE5 hY5 BY hSY hDY hXY hIY hprY hbE
  have hbV : b < V.heap.size := Nat.lt_trans hb hDV.lt
  have KS := fun n => parted_stops n bE bY b o' c' d rs (by omega) k2 (by omega) V hbV hprV (by rw [hM]; exact hEV) hYV
  have hzV := hDV.lt
  have hI0 : FS zD bI bX bS V.heap.size d v w [] V := ⟨_, hDV, hXV, hSV, hIV.own (grown_of (Below.refl _ _)) (by simp) (fun _ h => h.elim), ⟨[], rfl, World.ownsRow_nil _ _ _ _, fun j k b h => by cases h⟩, BV⟩
  have HH : Hid (_ ∧ _ ∧ _ ∧ _ ∧ _) := ⟨hrs, hv, k1, k3, hprV⟩
  clear hDV hXV hSV hIV hprV KP hrs hv k1 k3
  refine (wpIn_wide (n := 9)).1 ?_
  refine wpIn_rangeFunc_ownH rfl (by omega) (gf := 137) (lb := #[.pointer (some ⟨bE, 0, none⟩), .pointer (some ⟨bY, 0, none⟩)]) rfl trivial (enters_of Tryz.func137 (by kernel_rfl) rfl)
   (KS _) (fun h1 h2 => h1.trans h2) ?keep (Below.refl _ _) (fun _ => rfl)
   (fun pre W => FS zD bI bX bS V.heap.size d v w (pre.map fun g => kdE (ndF f (d + 1)) d rs g.1) W)
   (fun _ _ _ => False)
   ?own
   (fun c s A C row hs hg hr => hs)
   hI0
   (fun x a' W => a' = { tmps := #[.slice (some ⟨b, o', none⟩) M c', .int .i64 d, undef, .pointer (some ⟨zD, 0, none⟩), .pointer none, .pointer (some ⟨bX, 0, none⟩), .pointer (some ⟨bS, 0, none⟩), .int .u8 (hfA d rs x.1.1), .slice (some ⟨b, o' + 2 * x.1.1, none⟩) x.1.2 (c' - x.1.1), undef, .slice (some ⟨bI, 0, none⟩) 17 17, x11, x12, x13, x14, x15, x16, x17, x18, x19, x20, x21, x22, x23, x24, x25, x26, .slice (some ⟨b, o', none⟩) M c', .int .i64 d, .func (.func 137) #[] #[.pointer (some ⟨bE, 0, none⟩), .pointer (some ⟨bY, 0, none⟩)], .int .u8 (hfA d rs x.1.1), .slice (some ⟨b, o' + 2 * x.1.1, none⟩) x.1.2 (c' - x.1.1), undef, undef, undef, undef, undef, undef, undef, undef, undef, undef, undef, undef, undef, undef, undef, undef, undef, undef, undef, undef], defers := [] })
   (fun x a' _ A C row hs hg hr => hs)
   ?assign ?body ?done ?stop
  case own =>
   intro s A C row hs hg hr
   exact FS.own hs hg (fun r e => ⟨Nat.le_trans (Nat.le_of_lt hzV) (hr r e).1, (hr r e).2⟩)
  case keep =>
   intro W l o1 o2 h1 h2 h3 h4
   refine ⟨by simp [World.putObj], World.putObj_heap_other (fun e => ?_), World.putObj_heap_other (fun e => ?_)⟩
   ·subst e
    exact absurd hbV (Nat.not_lt.2 h1)
   ·subst e
    exact absurd hYV.lt (Nat.not_lt.2 h1)
  case assign =>
   rintro l pre x W K hI hK
   dsimp only [gEnc]
   have HX : Hid (_) := hI
   clear hI
   gi_wp2
   exact hK _ _ (KeepsFrom.refl _ _) (Kp.refl _ _ _) HX.out rfl
  case body =>
   rintro l pre x a' Wd hl ⟨r, hr⟩ hI rfl hlt
   obtain ⟨sv, hDd, hXd, hSd, hId, hTd, BWd⟩ := hI
   obtain ⟨⟨k, m⟩, hx⟩ := x
   obtain ⟨hrs, hv, k1, k3, hprV⟩ := HH.out
   obtain ⟨g1, g2, g3⟩ := k1.group k2 hx
   obtain ⟨hn, hhn, hn16⟩ : ∃ hn : Nat, hfA d rs k = hn ∧ hn < 16 := by
    obtain ⟨ek, hek⟩ : ∃ ek, rs[k]? = some ek := ⟨rs[k]'(by omega), List.getElem?_eq_getElem (by omega)⟩
    have := k1.hlf k ek d hek
    rw [hfA_at hek]
    exact ⟨(bt ek.1 d).toNat, by omega, by omega⟩
   have hprW : prs Wd b (o' + 2 * k) ((rs.drop k).take m) := fun j e he => by
    obtain ⟨hj, he'⟩ := part_get he
    obtain ⟨p1, p2⟩ := hprV (k + j) e he'
    have hblk : Wd.heap[b]? = V.heap[b]? := (BWd.block b hb).trans (BV.block b hb).symm
    rw [show o' + 2 * k + 2 * j = o' + 2 * (k + j) by omega]
    exact ⟨(World.cell?_of_block (w := V) (a := ⟨b, _, none⟩) hblk).trans p1, (World.cell?_of_block (w := V) (a := ⟨b, _, none⟩) hblk).trans p2⟩
   have hlW : Laid Wd := hl'.below (by rw [HZ.out.1]; exact BWd)
   have KN := HNC.out (d + 1) ((rs.drop k).take m) (by omega) g3 b (o' + 2 * k) (c' - k) Wd hlW (Nat.lt_trans hb hDd.lt) (by rw [part_len _ _ _ g2]; omega) hprW
   rw [part_len _ _ _ g2] at KN
   have wd : IntKind.i64.wrap ((d : Int) + 1) = ((d + 1 : Nat) : Int) := by rw [IntKind.wrap_i64]; omega
   have cD := hDd.cell
   have hzW := hDd.lt
   have hlW2 := hlW
   have HW : Hid (_ ∧ _ ∧ _ ∧ _ ∧ _ ∧ _ ∧ _) := ⟨hDd, hXd, hSd, hId, hTd, BWd, hlW⟩
   clear hDd hXd hSd hId hTd BWd hlW hprW hI0 KS hlW2
   dsimp only
   rw [hhn]
   obtain ⟨r2, hr2⟩ : ∃ x, o' + 2 * k = x := ⟨_, rfl⟩
   obtain ⟨c2, hc2⟩ : ∃ x, c' - k = x := ⟨_, rfl⟩
   rw [hr2, hc2] at KN ⊢
   gi_wp2_with fail
   refine ⟨trivial, (CallsIn.inRound l (callsIn_wide.2 KN)).mono ?_⟩
   rintro e2 w4 ⟨B4, bN, rfl, hN4⟩
   obtain ⟨hDd, hXd, hSd, hId, hTd, BWd, hlW⟩ := HW.out
   have hX4 : Bx bX 48 (.slice (some ⟨bI, 0, none⟩) 17 17) w4 := (B4.block _ hXd.lt).trans hXd
   have hXl4 := hX4.lt
   have hs4 := B4.size
   have hl4 : Laid w4 := hlW.below B4
   obtain ⟨nd, hnd⟩ : ∃ x, ndF f (d + 1) ((rs.drop k).take m) = x := ⟨_, rfl⟩
   rw [hnd] at hN4
   obtain ⟨pN, hpN⟩ : ∃ p : Nat → Prop, (fun k => Wd.heap.size ≤ k ∧ k < w4.heap.size) = p := ⟨_, rfl⟩
   have hpp : ∀ k, pN k → k < w4.heap.size := fun k hk => by rw [← hpN] at hk; exact hk.2
   rw [hpN] at hN4
   gi_wp2_with fail
   refine region_inv_tail_in l _ 4 (by rintro ⟨_, _, h⟩; exact h) (by kernel_rfl) (fun S aa W => ∃ x36 x37 x38 x39 : Value, aa = { tmps := #[Value.slice (some ⟨b, o', none⟩) M c', Value.int IntKind.i64 (d : Int), undef, Value.pointer (some ⟨zD, 0, none⟩), Value.pointer none, Value.pointer (some ⟨bX, 0, none⟩), Value.pointer (some ⟨bS, 0, none⟩), Value.int IntKind.u8 (hn : Int), Value.slice (some ⟨b, r2, none⟩) m c2, Value.pointer (some ⟨bN, 0, none⟩), Value.slice (some ⟨bI, 0, none⟩) 17 17, x11, x12, x13, x14, x15, x16, x17, x18, x19, x20, x21, x22, x23, x24, x25, x26, Value.slice (some ⟨b, o', none⟩) M c', Value.int IntKind.i64 (d : Int), Value.func (Fn.func 137) #[] #[Value.pointer (some ⟨bE, 0, none⟩), Value.pointer (some ⟨bY, 0, none⟩)], Value.int IntKind.u8 (hn : Int), Value.slice (some ⟨b, r2, none⟩) m c2, Value.slice (some ⟨b, r2, none⟩) m c2, Value.int IntKind.i64 (d : Int), Value.int IntKind.i64 ((d : Int) + 1), Value.pointer (some ⟨bN, 0, none⟩), x36, x37, x38, x39, undef, undef, undef, undef, undef, undef, undef, undef, undef, undef, undef, undef], defers := [] } ∧ FkK w4 bI bN hn nd pN hpp S x36 x37 x38 x39 W) (by kernel_rfl) (by kernel_rfl) ?_ ?_ ?_
   ·exact ⟨undef, undef, undef, undef, rfl, ⟨(Below.refl _ w4).drew, nofun, nofun, nofun, nofun⟩⟩
   ·intro i o S aa W hin hi hun hJ hall K hK
    obtain ⟨x36, x37, x38, x39, rfl, h⟩ := hJ
    have hlt : i < 4 := hin
    have hcase : i = 0 ∨ i = 1 ∨ i = 2 ∨ i = 3 := by omega
    rcases hcase with rfl | rfl | rfl | rfl
    all_goals (have ho := (Option.some.inj hi).symm; subst ho; clear hi hlt hin)
    ·have cX := Bx.cell ((h.e.block bX hXl4).trans hX4)
     go_simp
     exact hK _ _ ⟨_, _, _, _, rfl, { h with f0 := fun _ => rfl }⟩
    ·go_simp
     exact hK _ _ ⟨_, _, _, _, rfl, { h with f1 := fun _ => rfl }⟩
    ·go_simp
     exact hK _ _ ⟨_, _, _, _, rfl, { h with f2 := fun _ => rfl }⟩
    ·have s_2 : S 2 = true := hall ⟨2, .data⟩ (by simp) rfl
     obtain rfl := h.f2 s_2
     go_simp
     refine (reference_any nd bN pN W (hl4.below h.e) (Nat.le_trans (eS_size _) (by decide)) (fun k hk => Nat.lt_of_lt_of_le (hpp k hk) h.e.size) (ndIn_below h.e hpp _ _ hN4)).mono ?_
     rintro e' w3 ⟨im3, rfl, he3, hi3, hb3⟩
     have h1 := h.grow hb3
     exact hK _ _ ⟨_, _, _, _, rfl, { h1 with f3 := fun _ => ⟨im3, rfl, he3, hi3⟩ }⟩
   ·rintro S aa W hall ⟨x36, x37, x38, x39, rfl, h⟩
    obtain rfl := h.f0 (hall 0 (by decide))
    obtain rfl := h.f1 (hall 1 (by decide))
    obtain rfl := h.f2 (hall 2 (by decide))
    obtain ⟨im7, rfl, he7, hi7⟩ := h.f3 (hall 3 (by decide))
    have BWD := h.e
    clear h hall
    have hz2 := HZ.out.2
    have hlt2 : l < Wd.heap.size := (Array.getElem?_eq_some_iff.1 hr).1
    have hyl := hYV.lt
    have BdW : Below Wd.heap.size Wd W := belowStep B4 hs4 BWD
    have hsW := BdW.size
    have hsW4 := BWD.size
    have hown0 : ∀ q, sv.ownBlock = some q → q < Wd.heap.size := fun q e => by
     obtain ⟨bs, _, hq, _⟩ := hTd
     exact (hq.lt q e).2
    have hdl := hDd.lt
    have hxl := hXd.lt
    have hsl := hSd.lt
    have hil := hId.lt
    have hNB : ∀ q, NB zD bI bX bS sv Wd q → NB zD bI bX bS sv W q ∧ q < Wd.heap.size ∧ some q ≠ none := fun q hq => ⟨⟨hq.1, by have := hq.2.1; omega, hq.2.2⟩, hq.2.1, nofun⟩
    have hIW := hId.own (grown_of BdW) (row := none) (by simp) hNB
    have hTW := hTd.own (grown_of BdW) (row := none) (by cases sv.ownBlock <;> simp) hNB
    have hiW : inP (NB zD bI bX bS sv W) W im7 := inP_of (fun q hq => ⟨by
     rw [← hpN] at hq
     have hq1 := hq.1
     have hq2 := hq.2
     exact ⟨by omega, by omega, by omega, by omega, by omega, fun e => by have := hown0 q e; omega⟩, fun _ => rfl⟩) _ hi7
    have hNW : ndIn (NB zD bI bX bS sv W) W bN nd := ndIn_of (fun q hq => ⟨by
     rw [← hpN] at hq
     have hq1 := hq.1
     have hq2 := hq.2
     exact ⟨by omega, by omega, by omega, by omega, by omega, fun e => by have := hown0 q e; omega⟩, BWD.block q (hpp q hq)⟩) _ _ hN4
    obtain ⟨⟨v0, hv0⟩, y0⟩ := hIW.cell (hn * 3) (by omega)
    obtain ⟨⟨v1, hv1⟩, y1⟩ := hIW.cell (hn * 3 + 1) (by omega)
    obtain ⟨⟨v2, hv2⟩, y2⟩ := hIW.cell (hn * 3 + 2) (by omega)
    have hP5 := hIW.put (fun q hq => hq.2.2.1) hn im7 hiW
    rw [show 3 * hn = hn * 3 by omega] at hP5
    have lhn : (hn : Int) < 17 := by omega
    have HY : Hid (_ ∧ _ ∧ _ ∧ _ ∧ _ ∧ _ ∧ _) := ⟨hP5, hTW, hNW, BdW, HW, he7, hIW⟩
    clear hP5 hTW hNW BdW hIW hiW hNB hId hTd hN4 hi7 HW BWd hl4 hlW B4 hX4 BWD hDd hXd hSd
    obtain ⟨il, it, ia, ic, ix⟩ := im7
    dsimp only [Im.val, Im.l, Im.t, Im.sl, Im.a, Im.xs, Im.c] at HY ⊢
    go_wp2_with fail
    obtain ⟨U, hU⟩ : ∃ U, ((W.setCell ⟨bI, hn * 3, none⟩ (.bool il)).setCell ⟨bI, hn * 3 + 1, none⟩ (.string it)).setCell ⟨bI, hn * 3 + 2, none⟩ (.slice ia ix.length ic) = U := ⟨_, rfl⟩
    obtain ⟨hP5, hTW, hNW, BdW, HW, he7, hIW⟩ := HY.out
    obtain ⟨hDd, hXd, hSd, hId, hTd, BWd, hlW⟩ := HW.out
    have hsU : U.heap.size = W.heap.size := by rw [← hU]; simp [World.setCell]
    have hgU : W.grownBy U (some bI) := by
     rw [← hU]
     exact ⟨rfl, rfl, rfl, by simp [World.setCell], fun q _ hq => (Below.heap_setCell _ _ _ _ (fun e => hq (by simp [e]))).trans ((Below.heap_setCell _ _ _ _ (fun e => hq (by simp [e]))).trans (Below.heap_setCell _ _ _ _ (fun e => hq (by simp [e]))))⟩
    rw [hU] at hP5 ⊢
    clear HY hU hIW hId hTd HW v0 hv0 v1 hv1 v2 hv2 y0 y1 y2
    have hbIX : bI ≠ bX := by omega
    have hbk : ∀ q, q < Wd.heap.size → q ≠ bI → U.heap[q]? = Wd.heap[q]? := fun q h1 h2 => (hgU.block q (by omega) (fun e => h2 (by injection e))).trans (BdW.block q h1)
    have hDU : Bx zD 3 (.int .i64 d) U := (hbk zD hdl (by omega)).trans hDd
    have hXU : Bx bX 48 (.slice (some ⟨bI, 0, none⟩) 17 17) U := (hbk bX hxl (by omega)).trans hXd
    have hSU : Bx bS 59 sv U := (hbk bS hsl (by omega)).trans hSd
    have hNBU : ∀ q, NB zD bI bX bS sv W q → NB zD bI bX bS sv U q ∧ q < W.heap.size ∧ some q ≠ some bI := fun q hq => ⟨⟨hq.1, by have := hq.2.1; omega, hq.2.2⟩, hq.2.1, fun e => hq.2.2.1 (by injection e)⟩
    have hIU : ItsIn bI (NB zD bI bX bS sv U) U _ := hP5.own (grown_of (Below.refl _ U)) (row := none) (by simp) (fun q hq => ⟨(hNBU q hq).1, by have := hq.2.1; omega, nofun⟩)
    have hTU : StsIn V.heap.size (NB zD bI bX bS sv U) U sv _ := hTW.own hgU (by
     cases e : sv.ownBlock with
     | none => exact .inl rfl
     | some q =>
      refine .inr fun e2 => ?_
      injection e2 with e2
      obtain ⟨bs, _, hq, _⟩ := hTW
      have := (hq.lt q e).1
      omega) hNBU
    have hNU : ndIn (NB zD bI bX bS sv U) U bN nd := ndIn_of (fun q hq => ⟨(hNBU q hq).1, hgU.block q hq.2.1 (hNBU q hq).2.2⟩) _ _ hNW
    have BU : Below zD w U := ((belowStep BWd (Nat.le_of_lt hdl) BdW)).grown hgU (by omega) (fun q e => by injection e with e; omega)
    have KU : Kp b bY Wd U := ⟨by omega, hbk b (by omega) (by omega), hbk bY (by omega) (by omega)⟩
    have KF : KeepsFrom V.heap.size Wd U := by
     refine ((ko_below BdW).from _).trans ⟨by omega, fun q o1 hq ho hc => ?_⟩
     exact (hgU.block q (Array.getElem?_eq_some_iff.1 ho).1 (fun e => by injection e with e; omega)).trans ho
    have hsl5 := hSU.lt
    obtain ⟨bs, hbs, hown5, hnds⟩ := hTU
    obtain ⟨ks, hks⟩ : ∃ ks, (pre.map fun g => kdE (ndF f (d + 1)) d rs g.1) = ks := ⟨_, rfl⟩
    rw [hks] at hbs hown5 hnds hIU
    have hkl : ks.length < 1000000 := by
     have h1 := congrArg List.length hks
     rw [List.length_map] at h1
     have h2 := pg_len d rs (rs.length - 0) 0
     have h3 : (pg d rs 0).length ≤ rs.length - 0 := h2
     omega
    obtain ⟨ao, c0', hsv⟩ : ∃ ao c0, sv = .slice ao ks.length c0 := by
     rcases hown5.2 with ⟨h, h0⟩ | ⟨g, c, _, h, _⟩
     ·exact ⟨none, 0, by rw [h, h0]⟩
     ·exact ⟨_, c, h⟩
    have conv : (convert 87 9 (.slice (some ⟨U.heap.size, 0, none⟩) 1 1)).run Tryz.prog (U.alloc (.cells #[.int .u8 (hn : Int)] 5)) = .ok (.string (oneB hn)) (U.alloc (.cells #[.int .u8 (hn : Int)] 5)) := by
     have := conv_new U [UInt8.ofNat hn]
     simp only [List.map_cons, List.map_nil, UInt8.toNat_ofNat'] at this
     rw [show ((hn % 2 ^ 8 : Nat) : Int) = hn by omega] at this
     exact this
    obtain ⟨i1, hj0, hj1, hj2, hj3⟩ := info_parts info_step
    have A6 := be_new U (.cells #[.int .u8 (hn : Int)] 5)
    obtain ⟨X1, hX1⟩ : ∃ x, U.alloc (.cells #[.int .u8 (hn : Int)] 5) = x := ⟨_, rfl⟩
    have hsX1 : X1.heap.size = U.heap.size + 1 := by rw [← hX1]; simp
    rw [hX1] at conv A6
    obtain ⟨t1, ht1⟩ : ∃ x, oneB hn = x := ⟨_, rfl⟩
    rw [ht1] at conv
    have A7 := be_new X1 (.cells #[.string t1, .pointer (some ⟨bN, 0, none⟩)] 117)
    have hN7 : (X1.alloc (.cells #[.string t1, .pointer (some ⟨bN, 0, none⟩)] 117)).heap[X1.heap.size]? = some (.cells #[.string t1, .pointer (some ⟨bN, 0, none⟩)] 117 (0, 0)) := World.alloc_heap_new X1 _
    have A67 := belowStep A6 A6.size A7
    have hown7 := owns_below hown5 A67
    have hS7 : Bx bS 59 sv (X1.alloc (.cells #[.string t1, .pointer (some ⟨bN, 0, none⟩)] 117)) := (A67.block bS hsl5).trans hSU
    have cS := hSU.cell
    have HV : Hid (_ ∧ _ ∧ _ ∧ _ ∧ _ ∧ _ ∧ _ ∧ _ ∧ _ ∧ _ ∧ _) := ⟨hown7, hN7, hS7, A67, hDU, hXU, hIU, hnds, hNU, BU, KU⟩
    clear hown5 hown7 hN7 hS7 A67 A6 A7 hDU hXU hIU hnds hNU BU KU hSU hTW hNW hgU hP5 hNBU hbk
    have HS1 : Hid (U.heap.size = W.heap.size ∧ X1.heap.size = U.heap.size + 1) := ⟨hsU, hsX1⟩
    have hbX1 : V.heap.size ≤ X1.heap.size + 1 := by omega
    clear hsU hsX1
    subst hsv
    refine region_ord_in l _ (by kernel_rfl) (by rintro ⟨_, _, h⟩; exact h) ?_
    go_wp2_with (at_builtin; refine wpList_append_where _ rfl _ _ 59 rfl V.heap.size 117 i1 _ 2 24 Tryz.underlying59 hj0 hj1 hj2 hj3 rfl (by decide) _ ks.length (sC ks bs) rfl HV.out.1 ⟨X1.heap.size, 0, none⟩ 1 1 [.string t1, .pointer (some ⟨bN, 0, none⟩)] rfl rfl ?c1 ?c2 (by unfold maxLen; omega) (by omega) ?c3 (by decide) ?_)
    case c1 =>
     intro j u hj
     rw [Addr.add_lit, Lib.cell_of_heap HV.out.2.1, Nat.zero_add]
     simpa using hj
    case c2 =>
     intro u hu
     simp only [List.mem_cons, List.not_mem_nil, or_false] at hu
     rcases hu with rfl | rfl <;> rfl
    case c3 => simp; omega
    intro v' w6 a2 a3 a4 a5
    obtain ⟨hown7, hN7, hS7, A67, hDU, hXU, hIU, hnds, hNU, BU, KU⟩ := HV.out
    have hrow : ∀ q, (Value.slice ao ks.length c0').ownBlock = some q → V.heap.size ≤ q := fun q e => (hown7.lt q e).1
    have hneS : some bS ≠ (Value.slice ao ks.length c0').ownBlock := fun e => by have := hrow bS e.symm; omega
    have hS6 : Bx bS 59 (.slice ao ks.length c0') w6 := (a3.block bS hS7.lt hneS).trans hS7
    have cS6 := hS6.cell
    have fS6 := hS6.fr
    obtain ⟨g, c6, rfl⟩ : ∃ g c, v' = .slice (some ⟨g, 0, none⟩) (ks.length + 1) c := by
     rcases a2.2 with ⟨h, _⟩ | ⟨g, c, _, h, _⟩
     ·exact absurd h a4
     ·exact ⟨g, c, h⟩
    have hgS : w6.grownBy (w6.setCell ⟨bS, 0, none⟩ (.slice (some ⟨g, 0, none⟩) (ks.length + 1) c6)) (some bS) := ⟨rfl, rfl, rfl, by simp [World.setCell], fun q _ hq => Below.heap_setCell _ _ _ _ (fun e => hq (by simp [e]))⟩
    have hS8 := hS6.put (.slice (some ⟨g, 0, none⟩) (ks.length + 1) c6)
    obtain ⟨hs8, hs9⟩ := HS1.out
    have hs6 := a3.size
    have hs7 := A67.size
    have hg0 : V.heap.size ≤ g := (a2.lt g rfl).1
    have hown8 := a2.kept hgS (.inr fun e => by injection e with e; have e' : g = bS := e; omega)
    obtain ⟨Wf, hWf⟩ : ∃ x, w6.setCell ⟨bS, 0, none⟩ (.slice (some ⟨g, 0, none⟩) (ks.length + 1) c6) = x := ⟨_, rfl⟩
    have hsf : Wf.heap.size = w6.heap.size := by rw [← hWf]; simp [World.setCell]
    rw [hWf] at hgS hS8 hown8
    have hk6 : ∀ q, q < U.heap.size → q ≠ bS → some q ≠ (Value.slice ao ks.length c0').ownBlock → Wf.heap[q]? = U.heap[q]? := fun q h1 h2 h3 => (hgS.block q (by omega) (fun e => h2 (by injection e))).trans ((a3.block q (by omega) h3).trans (A67.block q h1))
    have hNB8 : ∀ q, NB zD bI bX bS (.slice ao ks.length c0') U q → NB zD bI bX bS (.slice (some ⟨g, 0, none⟩) (ks.length + 1) c6) Wf q := fun q hq => ⟨hq.1, by have := hq.2.1; omega, hq.2.2.1, hq.2.2.2.1, hq.2.2.2.2.1, fun e => by
     rcases a5 with a5 | ⟨g', e', a5⟩
     ·exact hq.2.2.2.2.2 (a5.symm.trans e)
     ·rw [e] at e'
      injection e' with e'
      have := hq.2.1
      omega⟩
    have hmv : ∀ (n : Nd) (q : Nat), ndIn (NB zD bI bX bS (.slice ao ks.length c0') U) U q n → ndIn (NB zD bI bX bS (.slice (some ⟨g, 0, none⟩) (ks.length + 1) c6) Wf) Wf q n := fun n q hn => ndIn_of (fun q hq => ⟨hNB8 q hq, hk6 q hq.2.1 hq.2.2.2.2.1 (fun e => hq.2.2.2.2.2 e.symm)⟩) n q hn
    have hI1 := hIU.own (grown_of A67) (row := none) (by simp) (q := NB zD bI bX bS (.slice ao ks.length c0') U) (fun q hq => ⟨hq, hq.2.1, nofun⟩)
    have hI2 := hI1.own a3 (fun e => by have := hrow bI e; omega) (q := NB zD bI bX bS (.slice ao ks.length c0') U) (fun q hq => ⟨hq, by have := hq.2.1; omega, fun e => hq.2.2.2.2.2 e.symm⟩)
    have hI8 := hI2.own hgS (fun e => by injection e with e; omega) (fun q hq => ⟨hNB8 q hq, by have := hq.2.1; omega, fun e => hq.2.2.2.2.1 (by injection e)⟩)
    have hD8 : Bx zD 3 (.int .i64 d) Wf := (hk6 zD hDU.lt (by omega) (fun e => by have := hrow zD e.symm; omega)).trans hDU
    have hX8 : Bx bX 48 (.slice (some ⟨bI, 0, none⟩) 17 17) Wf := (hk6 bX hXU.lt (by omega) (fun e => by have := hrow bX e.symm; omega)).trans hXU
    have B8 : Below zD w Wf := ⟨hgS.os.trans (a3.os.trans (A67.os.trans BU.os)), hgS.tape.trans (a3.tape.trans (A67.tape.trans BU.tape)), hgS.output.trans (a3.output.trans (A67.output.trans BU.output)), by have := BU.size; omega, fun q hq => (hk6 q (by omega) (by omega) (fun e => by have := hrow q e.symm; omega)).trans (BU.block q hq)⟩
    have K8 : Kp b bY Wd Wf := KU.trans ⟨by omega, hk6 b (by omega) (by omega) (fun e => by have := hrow b e.symm; omega), hk6 bY (by omega) (by omega) (fun e => by have := hrow bY e.symm; omega)⟩
    have KF8 : KeepsFrom V.heap.size Wd Wf := KF.trans ⟨by omega, fun q o1 hq ho hc => by
     have hqU := (Array.getElem?_eq_some_iff.1 ho).1
     refine (hk6 q hqU (by omega) (fun e => ?_)).trans ho
     obtain ⟨cc, hcc⟩ := owns_kind hown7 e.symm
     rw [A67.block q hqU, ho] at hcc
     cases hcc
     cases hc⟩
    have HG : Hid (_ ∧ _ ∧ _ ∧ _ ∧ _ ∧ _ ∧ _ ∧ _ ∧ _ ∧ _ ∧ _) := ⟨hS8, hown8, hmv, hI8, hD8, hX8, B8, K8, KF8, hnds, hNU⟩
    have HWf : Hid (_ = Wf) := hWf
    clear hS8 hown8 hmv hI8 hD8 hX8 B8 K8 KF8 hnds hNU hk6 hNB8 hI1 hI2 hS6 hS7 hN7 hown7 A67 hDU hXU hIU BU KU KF a2 a3 a4 a5 hgS hWf hsf
    go_wp2
    rw [HWf.out]
    obtain ⟨hS8, hown8, hmv, hI8, hD8, hX8, B8, K8, KF8, hnds, hNU⟩ := HG.out
    refine (?_ : KeepsFrom _ Wd Wf ∧ Kp b bY Wd Wf ∧ FS zD bI bX bS V.heap.size d v w ((pre ++ [(⟨(k, m), hx⟩ : Pg d rs)]).map fun g => kdE (ndF f (d + 1)) d rs g.1) Wf)
    have hkd : kdE (ndF f (d + 1)) d rs (k, m) = ((hn : Int), nd) := by
     show (hfA d rs k, ndF f (d + 1) ((rs.drop k).take m)) = _
     rw [hhn, hnd]
    rw [List.map_append, hks]
    show _ ∧ _ ∧ FS zD bI bX bS V.heap.size d v w (ks ++ [kdE (ndF f (d + 1)) d rs (k, m)]) Wf
    rw [hkd]
    refine ⟨KF8, K8, _, hD8, hX8, hS8, ?_, ⟨bs ++ [bN], by simp [hbs], ?_, ?_⟩, B8⟩
    ·rw [fkI_snoc]
     rw [he7] at hI8
     exact hI8
    ·rw [sC_snoc _ _ _ _ hbs.symm, List.length_append]
     show Wf.ownsRow _ _ _ _ _ (sC ks bs ++ [.string (oneB hn), .pointer (some ⟨bN, 0, none⟩)])
     rw [ht1]
     exact hown8
    ·intro j kk bb hkk hbb
     by_cases hj : j < ks.length
     ·rw [List.getElem?_append_left hj] at hkk
      rw [List.getElem?_append_left (by omega)] at hbb
      exact hmv _ _ (hnds j kk bb hkk hbb)
     ·have hj2 := (List.getElem?_eq_some_iff.1 hkk).1
      rw [List.length_append] at hj2
      have hj3 : j = ks.length := by simp at hj2; omega
      subst hj3
      simp at hkk
      rw [← hbs] at hbb
      simp at hbb
      subst hkk hbb
      exact hmv _ _ hNU
  case done =>
   rintro D ys Wd hD hys ⟨sv, hDd, hXd, hSd, hId, hTd, BWd⟩ hK
   have hch := (Array.getElem?_eq_some_iff.1 hK).1
   obtain ⟨hrs, hv, k1, k3, hprV⟩ := HH.out
   have hks : (ys.map fun g => kdE (ndF f (d + 1)) d rs g.1) = (pg d rs 0).map (kdE (ndF f (d + 1)) d rs) := by
    have h1 := congrArg (List.map (kdE (ndF f (d + 1)) d rs)) hys
    rw [List.map_map] at h1
    exact h1
   rw [hks] at hId hTd
   have hfk : fkN (ndF f (d + 1)) d es = .mk (.mk true ⟨#[]⟩ (fkI v ((pg d rs 0).map (kdE (ndF f (d + 1)) d rs)))) (fkS ((pg d rs 0).map (kdE (ndF f (d + 1)) d rs))) := by
    unfold fkN
    rw [hrs, hv]
   obtain ⟨ks, hkse⟩ : ∃ x, (pg d rs 0).map (kdE (ndF f (d + 1)) d rs) = x := ⟨_, rfl⟩
   rw [hkse] at hId hTd hfk
   have htb2 : tbIs (fkI v ks) ≤ 1000000 := by
    rw [hfk] at htb
    have e : tbI (Nd.mk (.mk true ⟨#[]⟩ (fkI v ks)) (fkS ks)).x = 0 + 9 + tbIs (fkI v ks) := rfl
    omega
   obtain ⟨a9, c9, hsv, hst⟩ := hTd.steps
   obtain ⟨ims, him, hers, hrow⟩ := hId.row (n := Wd.heap.size) hId.lt (fun q hq => hq.2.1)
   have hown9 : ∀ q, sv.ownBlock = some q → zD ≤ q ∧ q < Wd.heap.size := fun q e => by
    obtain ⟨bs, _, hq, _⟩ := hTd
    have h1 := hq.lt q e
    exact ⟨by omega, h1.2⟩
   have hp9 : ∀ q, (NB zD bI bX bS sv Wd q ∨ sv.ownBlock = some q) → q < Wd.heap.size := fun q hq => hq.elim (fun h => h.2.1) (fun h => (hown9 q h).2)
   have KNN := newNode_any ims (fkS ks) (by rw [tbs_er, hers]; omega) (some ⟨bI, 0, none⟩) a9 17 c9 Wd.heap.size _ Wd (Nat.le_refl _) hrow hp9 hst
   rw [him, hers] at KNN
   have cX := hXd.cell
   have cS := hSd.cell
   obtain ⟨ls, hls⟩ : ∃ x, (fkS ks).len = x := ⟨_, rfl⟩
   rw [hls] at KNN hsv
   rw [hsv] at cS
   have HW : Hid (_ ∧ _ ∧ _ ∧ _ ∧ _) := ⟨hfk, hK, BWd, hown9, hDd.lt⟩
   clear hDd hXd hSd hId hTd BWd hst hrow hers him hp9 hown9 hfk htb htb2 hK hI0 KS hprV k1 k3 hrs hv k2 k4 hok
   go_wp2_with fail
   refine KNN.mono ?_
   rintro e9 w9 ⟨B9, bF, rfl, hndF⟩
   have hK9 : w9.heap[D]? = some (.deferred (some [])) := (B9.block D hch).trans HW.out.2.1
   have HF : Hid (_ ∧ _ ∧ _) := ⟨B9, hndF, hK9⟩
   clear KNN B9 hndF cX cS hK9
   go_wp2
   obtain ⟨B9, hndF, hK9⟩ := HF.out
   obtain ⟨hfk, hK, BWd, hown9, hzl9⟩ := HW.out
   have hs9 := B9.size
   have hb9 : Below zD w w9 := belowStep BWd (Nat.le_of_lt hzl9) B9
   have hbP := belowK_b (n₀ := zD) (w := V) (Nat.le_of_lt hzV) w9 D _ (.deferred none) hD hK9 rfl rfl
   refine ⟨by simp, .inl ⟨_, _, rfl, run_takeDeferred hK9, ?_⟩⟩
   refine ⟨.pointer (some ⟨bF, 0, none⟩), by simp [results, Tryz.results94, go_sem], ?_, bF, rfl, ?_⟩
   ·rw [HZ.out.1]
    exact hb9.trans hbP
   ·rw [hfk, HZ.out.1]
    refine ndIn_of (fun q hq => ?_) _ _ (ndIn_cells _ _ hndF)
    obtain ⟨hq, cc, ce, cf, hcc⟩ := hq
    refine ⟨?_, World.putObj_heap_other (fun e => ?_)⟩
    ·have hbd : zD ≤ q ∧ q < w9.heap.size := by
      rcases hq with (hq | hq) | hq
      ·exact ⟨Nat.le_of_lt hq.1, by have := hq.2.1; omega⟩
      ·have := hown9 q hq
       exact ⟨this.1, by omega⟩
      ·exact ⟨by have := hq.1; omega, hq.2⟩
     exact ⟨hbd.1, by simpa [World.putObj] using hbd.2⟩
    ·rw [e, hK9] at hcc
     cases hcc
  case stop =>
   rintro D c pre W hD _ h
   exact h.elim
 have hs2 := hD3.lt
 have hbX2 : b < X.heap.size := Nat.lt_trans hb hs2
 have q0 : ∀ u os, (grow (redrawn X u) os).cell? ⟨b, o, none⟩ = some (.string e.1) := fun u os => ((below_regrown X u os).cell (p := ⟨b, o, none⟩) hbX2).trans ((B2.cell (p := ⟨b, o, none⟩) hb).trans c0)
 have q1 : ∀ u os, (grow (redrawn X u) os).cell? ⟨zD, 0, none⟩ = some (.int .i64 d) := fun u os => ((below_regrown X u os).cell (p := ⟨zD, 0, none⟩) hs2).trans hD3.cell
 refine wp_region_quiet_below (by kernel_rfl) (by kernel_rfl) ?_
 repeat (go_big_quiet_step (fail))
 refine wpQuiet_nil ?_
 intro w8 hw8
 have B8 : Below X.heap.size X w8 := by
  obtain ⟨p, rfl⟩ := hw8
  exact below_regrown _ _ _
 clear hw8 q0 q1
 have BW8 : Below zD w w8 := belowStep B2 (Nat.le_of_lt hs2) B8
 have hD8 : Bx zD 3 (.int .i64 d) w8 := (B8.block _ hs2).trans hD3
 have hX8 : Bx bX 48 (.slice (some ⟨bI, 0, none⟩) 17 17) w8 := (B8.block _ hX2.lt).trans hX2
 have hI8 : ItsIn bI (fun _ => False) w8 _ := hI3.own (grown_of B8) (row := none) (by simp) (fun _ h => h.elim)
 have hpr8 := prs_below BW8 hb hp
 obtain ⟨r, hr⟩ : ∃ r, es = e :: r := by
  match es, he with
  | x :: r, he => cases he; exact ⟨r, rfl⟩
 clear B8 B2 hD3 hX2 hI3
 by_cases hed : e.1.size = d
 ·have hbq : ((e.1.size : Int) == (d : Int)) = true := by rw [hed]; exact beq_self_eq_true _
  rw [hbq]
  have hrs : rsE d es = r := by rw [hr]; unfold rsE; exact if_pos hed
  have hv : vlE d es = e.2 := by rw [hr]; unfold vlE; exact if_pos hed
  have hrl : r.length = N - 1 := by have := HN.out; rw [hr] at this; simp at this; omega
  have hprr : prs w8 b (o + 2) r := fun j x hx => by
   have := hpr8 (j + 1) x (by rw [hr]; exact hx)
   rw [show o + 2 * (j + 1) = o + 2 + 2 * j by omega] at this
   exact this
  have hs8 := hX8.lt
  have hb8 : b < w8.heap.size := Nat.lt_trans hb hD8.lt
  have q0 : ∀ u os, (grow (redrawn w8 u) os).cell? ⟨bX, 0, none⟩ = some (.slice (some ⟨bI, 0, none⟩) 17 17) := fun u os => ((below_regrown w8 u os).cell (p := ⟨bX, 0, none⟩) hs8).trans hX8.cell
  have q1 : ∀ u os, (grow (redrawn w8 u) os).cell? ⟨b, o + 1, none⟩ = some (.string e.2) := fun u os => ((below_regrown w8 u os).cell (p := ⟨b, o + 1, none⟩) hb8).trans ((BW8.cell (p := ⟨b, o + 1, none⟩) hb).trans c1)
  have cT : ∀ u os, Calls Tryz.prog 119 #[.string e.2] (grow (redrawn w8 u) os) fun e' w'' => e' = .returned (.agg #[.bool false, .string e.2, .slice none 0 0]) ∧ ∃ p : Regrown, w'' = grow (redrawn w8 p.d) p.os := fun u os => Calls.regrown_of (text_any e.2 _)
  have l0' : 0 < N := by omega
  have HFIN : Hid (_) := FIN
  refine hKI _ _ ?_
  clear hKR hKI FIN
  go_wp2_with fail
  refine region_tail 6 (by kernel_rfl) (by kernel_rfl) ?_
  simp only [List.take_succ_cons, List.take_zero, List.drop_succ_cons, List.drop_zero]
  iterate 5 (quiet_step (fail))
  quiet_step (exact cT _ _)
  refine wpQuiet_nil ?_
  intro w9 hw9
  have B9 : Below w8.heap.size w8 w9 := by
   obtain ⟨p, rfl⟩ := hw9
   exact below_regrown _ _ _
  clear hw9 q0 q1 cT
  have BW9 : Below zD w w9 := belowStep BW8 (Nat.le_of_lt hD8.lt) B9
  have hD9 : Bx zD 3 (.int .i64 d) w9 := (B9.block _ hD8.lt).trans hD8
  have hX9 : Bx bX 48 (.slice (some ⟨bI, 0, none⟩) 17 17) w9 := (B9.block _ hX8.lt).trans hX8
  have hI9 : ItsIn bI (fun _ => False) w9 _ := hI8.own (grown_of B9) (row := none) (by simp) (fun _ h => h.elim)
  have hpr9 := prs_below B9 hb8 hprr
  obtain ⟨⟨v0, hv0⟩, y0⟩ := hI9.cell 48 (by omega)
  obtain ⟨⟨v1, hv1⟩, y1⟩ := hI9.cell 49 (by omega)
  obtain ⟨⟨v2, hv2⟩, y2⟩ := hI9.cell 50 (by omega)
  have hP9 := hI9.put (fun _ h => h.elim) 16 (txt e.2) trivial
  have hz2 := HZ.out.2
  have hgU : w9.grownBy (((w9.setCell ⟨bI, 48, none⟩ (.bool false)).setCell ⟨bI, 49, none⟩ (.string e.2)).setCell ⟨bI, 50, none⟩ (.slice none 0 0)) (some bI) := ⟨rfl, rfl, rfl, by simp [World.setCell], fun q _ hq => (Below.heap_setCell _ _ _ _ (fun e => hq (by simp [e]))).trans ((Below.heap_setCell _ _ _ _ (fun e => hq (by simp [e]))).trans (Below.heap_setCell _ _ _ _ (fun e => hq (by simp [e]))))⟩
  have hb9 : b < w9.heap.size := Nat.lt_of_lt_of_le hb8 B9.size
  have hfin := fun x11 x12 x13 x14 x15 x16 x17 x18 x19 x20 x21 x22 x23 x24 x25 x26 => HFIN.out r e.2 (o + 2) (N - 1) (c - 1) x11 x12 x13 x14 x15 x16 x17 x18 x19 x20 x21 x22 x23 x24 x25 x26 _ hrs hv hrl (by omega)
   (fun j x hx => ⟨(World.cell?_of_block (w := w9) (a := ⟨b, _, none⟩) (hgU.block b hb9 (fun e => by injection e with e; omega))).trans (hpr9 j x hx).1, (World.cell?_of_block (w := w9) (a := ⟨b, _, none⟩) (hgU.block b hb9 (fun e => by injection e with e; omega))).trans (hpr9 j x hx).2⟩)
   (BW9.grown hgU (Nat.le_of_lt hD9.lt) (fun q e => by injection e with e; omega)) ((hgU.block _ hD9.lt (fun e => by injection e with e; omega)).trans hD9) ((hgU.block _ hX9.lt (fun e => by injection e with e; omega)).trans hX9) hP9
  have HF : Hid (_) := hfin
  have lc : (1 : Int) ≤ N := by omega
  have lc2 : (1 : Int) ≤ c := by omega
  have lc3 : ¬ (c = 1) := by omega
  clear hfin hP9 hgU hI9 hX9 hD9 BW9 hpr9 HFIN hI8 hX8 hD8 hprr hpr8 BW8 B9
  go_wp2
  exact HF.out _ _ _ _ _ _ _ _ _ _ _ _ _ _ _ _
 ·have hbq : ((e.1.size : Int) == (d : Int)) = false := by rw [beq_eq_false_iff_ne]; omega
  rw [hbq]
  have hrs : rsE d es = es := by rw [hr]; unfold rsE; exact if_neg hed
  have hv : vlE d es = ⟨#[]⟩ := by rw [hr]; unfold vlE; exact if_neg hed
  have hF := fun x11 x12 x13 x14 x15 x16 x17 x18 x19 x20 x21 x22 x23 x24 x25 x26 => FIN es ⟨#[]⟩ o N c x11 x12 x13 x14 x15 x16 x17 x18 x19 x20 x21 x22 x23 x24 x25 x26 w8 hrs hv HN.out hcap hpr8 BW8 hD8 hX8 hI8
  have HF : Hid (_) := hF
  refine hKI _ _ ?_
  clear FIN hF hKI hKR
  go_wp2
  exact HF.out _ _ _ _ _ _ _ _ _ _ _ _ _ _ _ _
end Go.Proofs.YtbmapdkcccdmfaaGreatDoor
namespace Go.Proofs.YtbmapdkcccdmfaaGreatDoor
open Go.RowKit Go.Shelf Go.Sort

theorem lt_lists : ∀ a b : List UInt8, a < b → ∃ t, t ≤ a.length ∧ t < b.length ∧ (∀ s, s < t → a.getD s 0 = b.getD s 0) ∧ (t = a.length ∨ (a.getD t 0).toNat < (b.getD t 0).toNat)
 | [], [], h => absurd h (List.lt_irrefl _)
 | [], b :: br, _ => ⟨0, Nat.le_refl _, by simp, fun s hs => by omega, .inl rfl⟩
 | a :: ar, [], h => absurd h (List.not_lt_nil _)
 | a :: ar, b :: br, h => by
  rw [List.cons_lt_cons_iff] at h
  rcases h with h | ⟨rfl, h⟩
  ·exact ⟨0, Nat.zero_le _, by simp, fun s hs => by omega, .inr (UInt8.lt_iff_toNat_lt.1 h)⟩
  ·obtain ⟨t, h1, h2, h3, h4⟩ := lt_lists ar br h
   refine ⟨t + 1, by simp; omega, by simp; omega, fun s hs => ?_, ?_⟩
   ·match s with
    | 0 => rfl
    | s + 1 => exact h3 s (by omega)
   ·rcases h4 with h4 | h4
    ·exact .inl (by simp [h4])
    ·exact .inr h4
theorem bt_list (s : ByteArray) (i : Nat) : bt s i = ((s.data.toList.getD i 0).toNat : Int) := by
 unfold bt
 congr 2
 rw [Array.getD_eq_getD_getElem?, List.getD_eq_getElem?_getD, Array.getElem?_toList]
theorem ltB_str {a b : ByteArray} (h : ltStr a.data.toList b.data.toList = true) : LtB a b := by
 obtain ⟨t, h1, h2, h3, h4⟩ := lt_lists _ _ (of_decide_eq_true h)
 refine ⟨t, by simpa using h1, by simpa using h2, fun s hs => ?_, ?_⟩
 ·rw [bt_list, bt_list, h3 s hs]
 ·rcases h4 with h4 | h4
  ·exact .inl (by simpa using h4)
  ·right
   rw [bt_list, bt_list]
   omega
theorem of_bt (s : ByteArray) (j : Nat) (h : j < 2 * s.size) : bt (ofOf s) j = if j % 2 = 0 then bt s (j / 2) / 16 else bt s (j / 2) % 16 :=
 (n_bt_by8 (2 * s.size) (half s) (fun j => by have := half_bd s j; omega) j h)
theorem of_sz (s : ByteArray) : (ofOf s).size = 2 * s.size := n_by8_size _ _
theorem bt_big (s : ByteArray) (i : Nat) : 0 ≤ bt s i ∧ bt s i < 256 := bt_bd s i
theorem ltB_of {a b : ByteArray} (h : LtB a b) : LtB (ofOf a) (ofOf b) := by
 obtain ⟨t, h1, h2, h3, h4⟩ := h
 have key : ∀ s, s < 2 * t → bt (ofOf a) s = bt (ofOf b) s := fun s hs => by
  rw [of_bt a s (by omega), of_bt b s (by omega), h3 (s / 2) (by omega)]
 by_cases ht : t = a.size
 ·exact ⟨2 * t, by rw [of_sz]; omega, by rw [of_sz]; omega, key, .inl (by rw [of_sz]; omega)⟩
 ·have h5 : bt a t < bt b t := by
   rcases h4 with h4 | h4
   ·exact absurd h4 ht
   ·exact h4
  have ba := bt_big a t
  have bb := bt_big b t
  have e0 : bt (ofOf a) (2 * t) = bt a t / 16 := by rw [of_bt a _ (by omega), if_pos (by omega), show 2 * t / 2 = t by omega]
  have e1 : bt (ofOf b) (2 * t) = bt b t / 16 := by rw [of_bt b _ (by omega), if_pos (by omega), show 2 * t / 2 = t by omega]
  have e2 : bt (ofOf a) (2 * t + 1) = bt a t % 16 := by rw [of_bt a _ (by omega), if_neg (by omega), show (2 * t + 1) / 2 = t by omega]
  have e3 : bt (ofOf b) (2 * t + 1) = bt b t % 16 := by rw [of_bt b _ (by omega), if_neg (by omega), show (2 * t + 1) / 2 = t by omega]
  by_cases h6 : bt a t / 16 < bt b t / 16
  ·exact ⟨2 * t, by rw [of_sz]; omega, by rw [of_sz]; omega, key, .inr (by omega)⟩
  ·refine ⟨2 * t + 1, by rw [of_sz]; omega, by rw [of_sz]; omega, fun s hs => ?_, .inr (by omega)⟩
   by_cases h7 : s < 2 * t
   ·exact key s h7
   ·obtain rfl : s = 2 * t := by omega
    omega
theorem ents_get {es : List Pr} {j : Nat} {e : Pr} (h : (ents es)[j]? = some e) : ∃ x, es[j]? = some x ∧ e = (ofOf x.1, x.2) := by
 unfold ents at h
 rw [List.getElem?_map] at h
 cases hx : es[j]? with
 | none => rw [hx] at h; cases h
 | some x => rw [hx] at h; cases h; exact ⟨x, rfl, rfl⟩
theorem ok_ents (es : List Pr) (h0 : 0 < es.length) (hr : RightP es) (hs : SortedP es) : Ok 0 (ents es) where
 pos := by rw [ents_len]; exact h0
 few := by rw [ents_len]; exact hr.1
 sz j e he := by
  obtain ⟨x, hx, rfl⟩ := ents_get he
  have := (pOk_iff x).1 (hr.2.1 j x hx)
  exact ⟨Nat.zero_le _, by show (ofOf x.1).size ≤ 128; rw [of_sz]; omega, this.2.2.2⟩
 srt i j e f hij he hf := by
  obtain ⟨x, hx, rfl⟩ := ents_get he
  obtain ⟨y, hy, rfl⟩ := ents_get hf
  refine ltB_of (ltB_str ?_)
  cases hxy : ltStr x.1.data.toList y.1.data.toList with
  | true => rfl
  | false => exact absurd (bytes_inj2 (tri_ltStr _ _ hxy (hs i j x y hij hx hy))) (hr.2.2 i j x y hij hx hy)
 alk i j e f t _ _ ht := by omega
 hlf j e t he := by
  obtain ⟨x, hx, rfl⟩ := ents_get he
  show 0 ≤ bt (ofOf x.1) t ∧ bt (ofOf x.1) t < 16
  by_cases ht : t < 2 * x.1.size
  ·rw [of_bt x.1 t ht]
   have := bt_big x.1 (t / 2)
   split <;> omega
  ·have : bt (ofOf x.1) t = 0 := bt_out _ _ (by rw [of_sz]; omega)
   omega
end Go.Proofs.YtbmapdkcccdmfaaGreatDoor
namespace Go.Proofs.YtbmapdkcccdmfaaGreatDoor
open Go.RowKit Go.Shelf Go.Sort

theorem node_all : ∀ f : Nat, NdC f
 | 0 => fun d es hf hok => by
  have h0 := hok.pos
  have h1 := hok.sz 0 (es[0]'(by omega)) (List.getElem?_eq_getElem (by omega))
  omega
 | f + 1 => node_step f (fork_of f (node_all f)) (node_all f)
def topN (es : List Pr) : Nd := ndF 129 0 (ents es)
theorem nodeOf_any (es : List Pr) (h0 : 0 < es.length) (hr : RightP es) (hs : SortedP es) (b o c : Nat) (w : World) (hl : Laid w) (hb : b < w.heap.size) (hc : es.length ≤ c) (hp : prs w b o (ents es)) :
  Calls Tryz.prog 58 #[.slice (some ⟨b, o, none⟩) es.length c, .int .i64 0] w fun e w' => Below w.heap.size w w' ∧ ∃ b', e = .returned (.pointer (some ⟨b', 0, none⟩)) ∧ ndIn (fun k => w.heap.size ≤ k ∧ k < w'.heap.size) w' b' (topN es) := by
 have h := node_all 129 0 (ents es) (by omega) (ok_ents es h0 hr hs) b o c w hl hb (by rw [ents_len]; exact hc) hp
 rw [ents_len] at h
 exact h
end Go.Proofs.YtbmapdkcccdmfaaGreatDoor
namespace Go.Proofs.YtbmapdkcccdmfaaGreatDoor
open Go.RowKit Go.Shelf Go.Sort

def TpP (n : Nat) (es : List Pr) (e : Ending) (w' : World) : Prop := (¬ RightP es ∧ e = .returned (.tuple #[.pointer none, .bool false])) ∨ (RightP es ∧ es = [] ∧ e = .returned (.tuple #[.pointer none, .bool true])) ∨
 (RightP es ∧ ∃ (es' : List Pr) (b' : Nat), es'.Perm es ∧ SortedP es' ∧ 0 < es'.length ∧ e = .returned (.tuple #[.pointer (some ⟨b', 0, none⟩), .bool true]) ∧ ndIn (fun k => n ≤ k ∧ k < w'.heap.size) w' b' (topN es'))

set_option maxRecDepth 20000 in
set_option maxHeartbeats 2000000 in
theorem topOf_any (es : List Pr) (a : Option Addr) (c n : Nat) (w : World) (hl : Laid w) (hn : n ≤ w.heap.size) (hp : slP n w a es) :
  Calls Tryz.prog 31 #[.slice a es.length c] w fun e w' => Below w.heap.size w w' ∧ TpP w.heap.size es e w' := by
 have KS := sorted_any es a c n w hn hp
 go_enter Tryz.func31, Tryz.ntmps31
 go_wp2_with fail
 refine KS.mono ?_
 rintro e w1 ⟨B1, hcase⟩
 rcases hcase with ⟨hnr, rfl⟩ | ⟨hr, es', a', c', rfl, hperm, hsort, hp'⟩
 ·go_wp2
  refine bodyPost_ret (v := .tuple #[.pointer none, .bool false]) (by simp [results, Tryz.results31, go_sem]) rfl ⟨B1, .inl ⟨hnr, rfl⟩⟩
 ·have hr' : RightP es' := (right_perm hperm).2 hr
  by_cases h0 : es'.length = 0
  ·have hb0 : ((es'.length : Int) == 0) = true := by rw [h0]; rfl
   have hnil : es = [] := by
    have := hperm.length_eq
    exact List.length_eq_zero_iff.1 (by omega)
   have HX : Hid (_ ∧ _) := ⟨hr, hnil⟩
   clear hr hnil hr' hperm hsort hp'
   go_wp2
   refine bodyPost_ret (v := .tuple #[.pointer none, .bool true]) (by simp [results, Tryz.results31, go_sem]) rfl ⟨B1, .inr (.inl ⟨HX.out.1, HX.out.2, rfl⟩)⟩
  ·have hb0 : ((es'.length : Int) == 0) = false := by rw [beq_eq_false_iff_ne]; omega
   have KE := entriesOf_any es' (by omega) hr'.1 (fun j e he => ((pOk_iff e).1 (hr'.2.1 j e he)).2.1) a' c' w1.heap.size w1 (Nat.le_refl _) hp'
   have hl1 := hl.below B1
   have KN := fun b w hl hb hp => nodeOf_any es' (by omega) hr' hsort b 0 es'.length w hl hb (Nat.le_refl _) hp
   have HX : Hid (_ ∧ _ ∧ _) := ⟨hr, hperm, hsort⟩
   have hpos : 0 < es'.length := by omega
   obtain ⟨M, hM⟩ : ∃ M, es'.length = M := ⟨_, rfl⟩
   have HM : Hid (0 < es'.length) := hpos
   rw [hM] at KE KN hb0 ⊢
   clear hr hr' hperm hsort hp' hpos h0 hM
   go_wp2_with fail
   refine KE.mono ?_
   rintro e w2 ⟨B2, rfl, hlt2, hpr2⟩
   go_wp2_with fail
   refine (KN _ _ (hl1.below B2) hlt2 hpr2).mono ?_
   rintro e w3 ⟨B3, b', rfl, hnd⟩
   have B12 := belowStep B1 B1.size B2
   have BW := belowStep B12 B12.size B3
   have hs := B12.size
   have HF : Hid (_ ∧ _) := ⟨BW, hnd⟩
   clear KE KN B2 B3 BW hnd
   go_wp2
   refine bodyPost_ret (v := .tuple #[.pointer (some ⟨b', 0, none⟩), .bool true]) (by simp [results, Tryz.results31, go_sem]) rfl ⟨HF.out.1, .inr (.inr ⟨HX.out.1, es', b', HX.out.2.1, HX.out.2.2, HM.out, rfl, ndIn_mono (fun k hk => ⟨by omega, hk.2⟩) _ _ HF.out.2⟩)⟩
end Go.Proofs.YtbmapdkcccdmfaaGreatDoor
namespace Go.Proofs.YtbmapdkcccdmfaaGreatDoor
open Go.RowKit Go.Shelf Go.Sort

def topB (es : List Pr) : ByteArray := if es.length = 0 then ⟨#[128]⟩ else eS (topN es).x
def RtP (es : List Pr) (e : Ending) : Prop := (¬ RightP es ∧ e = .returned (.tuple #[.string ⟨#[]⟩, .int .i64 60])) ∨
 (RightP es ∧ ∃ es' : List Pr, es'.Perm es ∧ SortedP es' ∧ e = .returned (.tuple #[.string (sumOf (topB es')), .int .i64 0]))

set_option maxRecDepth 20000 in
set_option maxHeartbeats 2000000 in
theorem root_any (es : List Pr) (a : Option Addr) (c n : Nat) (w : World) (hl : Laid w) (hn : n ≤ w.heap.size) (hp : slP n w a es) :
  Calls Tryz.prog 13 #[.slice a es.length c] w fun e w' => Below w.heap.size w w' ∧ RtP es e := by
 have KS := topOf_any es a c n w hl hn hp
 go_enter Tryz.func13, Tryz.ntmps13
 go_wp2_with fail
 refine KS.mono ?_
 rintro e w1 ⟨B1, hcase⟩
 have hl1 := hl.below B1
 rcases hcase with ⟨hnr, rfl⟩ | ⟨hr, hnil, rfl⟩ | ⟨hr, es', b', hperm, hsort, h0, rfl, hnd⟩
 ·have HX : Hid (_) := hnr
  clear hnr
  go_wp2
  exact bodyPost_ret (v := .tuple #[.string ⟨#[]⟩, .int .i64 60]) (by simp [results, Tryz.results13, go_sem]) rfl ⟨B1, .inl ⟨HX.out, rfl⟩⟩
 ·have HX : Hid (_ ∧ _) := ⟨hr, hnil⟩
  have KM := sum_one ⟨#[128]⟩ (by decide) w1 hl1
  obtain ⟨s, hs⟩ : ∃ s, sumOf ⟨#[128]⟩ = s := ⟨_, rfl⟩
  rw [hs] at KM
  clear hr hnil
  go_wp2_with fail
  refine KM.mono ?_
  rintro e w2 ⟨rfl, B2⟩
  have BW := belowStep B1 B1.size B2
  clear KM
  go_wp2
  refine bodyPost_ret (v := .tuple #[.string s, .int .i64 0]) (by simp [results, Tryz.results13, go_sem]) rfl ⟨BW, .inr ⟨HX.out.1, [], ?_, ?_, ?_⟩⟩
  ·rw [HX.out.2]
  ·intro i j x y _ h
   cases h
  ·rw [← hs]
   rfl
 ·obtain ⟨x, hx⟩ : ∃ x, topN es' = x := ⟨_, rfl⟩
  rw [hx] at hnd
  obtain ⟨x, ss⟩ := x
  obtain ⟨im, a1, c1, h1, h2, h3, h4, h5⟩ := hnd
  have c3 : w1.cell? ⟨b', 3, none⟩ = some (.string (eS x)) := by rw [Lib.cell_of_heap h2]; rfl
  have KM := sum_one (eS x) (Nat.le_trans (eS_size _) (by decide)) w1 hl1
  have HX : Hid (_ ∧ _ ∧ _ ∧ _ ∧ _) := ⟨hr, hperm, hsort, h0, hx⟩
  clear hr hperm hsort h0 h1 h2 h3 h4 h5
  obtain ⟨t1, ht1⟩ : ∃ s, eS x = s := ⟨_, rfl⟩
  rw [ht1] at c3 KM
  obtain ⟨s, hs⟩ : ∃ s, sumOf t1 = s := ⟨_, rfl⟩
  rw [hs] at KM
  go_wp2_with fail
  refine KM.mono ?_
  rintro e w2 ⟨rfl, B2⟩
  have BW := belowStep B1 B1.size B2
  clear KM
  go_wp2
  obtain ⟨hr, hperm, hsort, h0, hx⟩ := HX.out
  refine bodyPost_ret (v := .tuple #[.string s, .int .i64 0]) (by simp [results, Tryz.results13, go_sem]) rfl ⟨BW, .inr ⟨hr, es', hperm, hsort, ?_⟩⟩
  have e : topB es' = t1 := by
   unfold topB
   rw [if_neg (by omega), hx]
   exact ht1
  rw [e, hs]
end Go.Proofs.YtbmapdkcccdmfaaGreatDoor
