/- Lemmas: What the package's total does: the sum of what is handed on. No condition. What the package's Sum, holds, Verify, All do. No condition. -/
import Derived.Test.YtoddangedbefgabGreatDoorM21
set_option maxRecDepth 20000
set_option maxHeartbeats 4000000
namespace Go.Proofs.YtoddangedbefgabGreatDoor
open Go.RowKit Go.Shelf Go.Sort
attribute [local go_sem] Oper.semAt_some
def toE (m : Pt) : List El → Option Pt
 | [] => some m
 | x :: l => match x.val with
  | some p => toE (smN m p) l
  | none => none
theorem toE_app (m : Pt) (l k : List El) : toE m (l ++ k) = (toE m l).bind fun q => toE q k := by
 induction l generalizing m with
 | nil => rfl
 | cons x l ih =>
  rw [List.cons_append, toE, toE]
  cases x.val with
  | none => rfl
  | some p => exact ih _
theorem toE_none {m : Pt} {l k : List El} (h : toE m l = none) : toE m (l ++ k) = none := by rw [toE_app, h]; rfl
def xP (x : El) : Pt := x.val.getD oP
def xE (x : El) : Int := if x.val.isSome then 0 else 100
theorem e_enc (x : El) : eEnc x = #[vT (xP x), .int .i64 (xE x)] := by
 unfold eEnc xP xE
 cases x.val <;> rfl
theorem HdIn.belowN {n bP bB : Nat} {b : Bool} {g : Nat} {l : List ByteArray} {a : Option Addr} {c : Nat} {W W' : World} (h : HdIn bP bB b g l a c W) (hb : Below n W W') (h1 : bP < n) (h2 : bB < n) (h3 : ∀ B o, a = some ⟨B, o, none⟩ → l ≠ [] → B < n) (h4 : b = true → g < n) (hn : 4 < n ∧ 5 < n ∧ 6 < n ∧ 3 < n ∧ 1 < n ∧ 0 < n ∧ 2 < n) : HdIn bP bB b g l a c W' := by
 refine ⟨(hb.block _ h1).trans h.p, (hb.block _ h2).trans h.q, ?_, fun e => ?_, h.s.belowN hb hn⟩
 ·by_cases hl : l = []
  ·exact .inl hl
  ·obtain ⟨B, o, e, hB, hc⟩ := h.t.resolve_left hl
   exact .inr ⟨B, o, e, Nat.lt_of_lt_of_le hB hb.size, fun j x hx => (hb.cell (p := ⟨B, o + j, none⟩) (h3 B o e hl)).trans (hc j x hx)⟩
 ·have ht := h.g e
  have hg := h4 e
  exact ⟨Nat.lt_of_lt_of_le ht.z hb.size, (hb.cell (p := ⟨g, 0, none⟩) hg).trans ht.a, (hb.cell (p := ⟨g, 1, none⟩) hg).trans ht.b, (hb.cell (p := ⟨g, 2, none⟩) hg).trans ht.c, fun o => by rw [← ht.f o]; simp only [World.frozen?, hb.block _ hg]⟩
theorem HdIn.own {bP bB : Nat} {b : Bool} {g : Nat} {l : List ByteArray} {a : Option Addr} {c : Nat} {A C : World} {row : Option Nat} (h : HdIn bP bB b g l a c A) (hg : A.grownBy C row) (hr : ∀ r, row = some r → ∃ o : Obj, A.heap[r]? = some o ∧ o.isCells = false) : HdIn bP bB b g l a c C := by
 have keep : ∀ B (v : Value) (o : Nat), A.cell? ⟨B, o, none⟩ = some v → C.heap[B]? = A.heap[B]? := by
  intro B v o hv
  have hlt := block_lt_of_cell hv
  refine hg.block B hlt (fun e => ?_)
  obtain ⟨ob, ho, hc⟩ := hr B e.symm
  simp only [World.cell?, ho] at hv
  cases ob <;> simp_all [Obj.isCells]
 refine ⟨h.p.own hg hr, h.q.own hg hr, ?_, fun e => ?_, h.s.own hg hr⟩
 ·rcases h.t with h | ⟨B, o, e, hB, hc⟩
  ·exact .inl h
  ·exact .inr ⟨B, o, e, Nat.lt_of_lt_of_le hB hg.size, fun j x hx => by rw [← hc j x hx]; simp only [World.cell?, keep B _ _ (hc j x hx)]⟩
 ·have ht := h.g e
  have hk := keep g _ _ ht.a
  exact ⟨Nat.lt_of_lt_of_le ht.z hg.size, by rw [← ht.a]; simp only [World.cell?, hk], by rw [← ht.b]; simp only [World.cell?, hk], by rw [← ht.c]; simp only [World.cell?, hk], fun o => by rw [← ht.f o]; simp only [World.frozen?, hk]⟩
theorem alloc_three (w : World) (o1 o2 o3 : Obj) : (((w.alloc o1).alloc o2).alloc o3).heap[w.heap.size]? = some o1 ∧ (((w.alloc o1).alloc o2).alloc o3).heap[w.heap.size + 1]? = some o2 ∧ (((w.alloc o1).alloc o2).alloc o3).heap[w.heap.size + 2]? = some o3 := by
 have h := jbw w o1 o2
 have hb := (Below.refl _ ((w.alloc o1).alloc o2)).alloc (Nat.le_refl _) o3
 refine ⟨(hb.block _ (by simp; omega)).trans h.1, (hb.block _ (by simp)).trans h.2, ?_⟩
 have h3 := World.alloc_heap_new ((w.alloc o1).alloc o2) o3
 simpa using h3
def totV (o : Option Pt) : Value := match o with
 | some p => okT p
 | none => errT
theorem total_any (bP bB : Nat) (b : Bool) (g : Nat) (l : List ByteArray) (hl : l.length ≤ 1000) (a : Option Addr) (c : Nat) (w : World) (hc : HdIn bP bB b g l a c w) :
  Calls Tryz.prog 119 #[.func (.func 139) #[] #[.pointer (some ⟨bP, 0, none⟩), .pointer (some ⟨bB, 0, none⟩)]] w fun e w' => e = .returned (totV (toE iN (elsT b l))) ∧ Below w.heap.size w w' := by
 have hL := hc.s
 have lq := hL.ne
 have htop := hL.top
 have i0 := hL.i0
 have i1 := hL.i1
 have i2 := hL.i2
 have b1 := hc.p.lt
 have b2 := hc.q.lt
 have b3 : ∀ B o, a = some ⟨B, o, none⟩ → l ≠ [] → B < w.heap.size := fun B o e hn => by
  obtain ⟨B', o', e', hB, _⟩ := hc.t.resolve_left hn
  rw [e] at e'
  cases e'
  exact hB
 have b4 : b = true → g < w.heap.size := fun e => (hc.g e).z
 have HB34 : Hid (_ ∧ _) := ⟨b3, b4⟩
 clear b3 b4
 refine (callsIn_wide (n := 9)).1 ?_
 refine callsIn_of_wp_marks Tryz.func119 rfl trivial ?_ rfl
 refine wpIn_wide.2 ?_
 simp only [Tryz.ntmps119, List.size_toArray, List.length_cons, List.length_nil, Nat.reduceAdd, Nat.reduceSub, Array.replicate_succ, Array.replicate_zero, List.push_toArray, List.append_toArray, List.nil_append, List.cons_append]
 go_wp2_with fail
 obtain ⟨z, hz⟩ : ∃ c, w.heap.size = c := ⟨_, rfl⟩
 have HZ : Hid (w.heap.size = z) := hz
 refine wpOf (fun W => Below w.heap.size w W ∧ W.heap.size = z + 3 ∧ PtB z oP W ∧ Bq (z + 1) 39 #[.int .i64 0] W ∧ PtB (z + 2) iN W) ?_ ?_
 ·have t2 := alloc_three w (.cells #[.int .u64 ((oP.X : Nat) : Int), .int .u64 ((oP.Y : Nat) : Int), .bool oP.I] 72) (.cells #[.int .i64 0] 39) (.cells #[.int .u64 ((iN.X : Nat) : Int), .int .u64 ((iN.Y : Nat) : Int), .bool iN.I] 72)
  refine ⟨(((Below.refl _ w).alloc (Nat.le_refl _) _).alloc (by simp) _).alloc (by simp; omega) _, by simp [hz], ?_⟩
  rw [hz] at t2
  exact t2
 rintro w2 ⟨BW2, hs2, O2, E2', M2⟩
 have C2 := hc.below BW2
 obtain ⟨b3, b4⟩ := HB34.out
 rw [hz] at htop b1 b2 b3 b4 BW2 ⊢
 rw [show z + 1 + 1 = z + 2 from rfl]
 clear hz lq i0 i1 i2 hL hc
 refine (wpIn_wide (n := 9)).1 ?_
 refine wpIn_rangeFunc_ownH rfl (by omega) (gf := 139) (lb := #[.pointer (some ⟨bP, 0, none⟩), .pointer (some ⟨bB, 0, none⟩)]) rfl trivial (enters_of Tryz.func139 (by kernel_rfl) rfl)
  (handOn_stops _ bP bB b g l hl a c w2 C2) (fun h k => HdK.trans h k) (fun W l' o o' hl' h1 h2 h3 hx => hx.belowN (belowK_b (n₀ := z) (w := w2) (by omega) W l' o o' hl' h1 h2 h3) (by omega) (by omega) b3 b4 htop) (Below.refl _ _) (fun x => by rw [e_enc]; rfl)
  (fun pre W => PtB z oP W ∧ Bq (z + 1) 39 #[.int .i64 0] W ∧ (∃ m, toE iN pre = some m ∧ grN m = true ∧ PtB (z + 2) m W) ∧ HdIn bP bB b g l a c W ∧ Below z w W ∧ z + 2 < W.heap.size)
  (fun c' pre W => c' = .ret ∧ toE iN pre = none ∧ PtB z oP W ∧ Bq (z + 1) 39 #[.int .i64 100] W ∧ Below z w W ∧ z + 2 < W.heap.size)
  (fun s A C row hs hg hr => by
   obtain ⟨h1, h2, ⟨m, h3, h4, h5⟩, h6, h7, h8⟩ := hs
   exact ⟨h1.own hg (fun r e => (hr r e).2), h2.own hg (fun r e => (hr r e).2), ⟨m, h3, h4, h5.own hg (fun r e => (hr r e).2)⟩, h6.own hg (fun r e => (hr r e).2), h7.grown hg (by omega) (fun k e => Nat.le_trans (by omega) (hr k e).1), Nat.lt_of_lt_of_le h8 hg.size⟩)
  (fun c' s A C row hs hg hr => by
   obtain ⟨h1, h2, h3, h4, h5, h6⟩ := hs
   exact ⟨h1, h2, h3.own hg (fun r e => (hr r e).2), h4.own hg (fun r e => (hr r e).2), h5.grown hg (by omega) (fun k e => Nat.le_trans (by omega) (hr k e).1), Nat.lt_of_lt_of_le h6 hg.size⟩)
  ⟨O2, E2', ⟨iN, rfl, gr_inf, M2⟩, C2, BW2, by omega⟩
  (fun x a' W => ∃ Bx, z + 2 < Bx ∧ PtB Bx (xP x) W ∧ a' = { tmps := #[.func (.func 139) #[] #[.pointer (some ⟨bP, 0, none⟩), .pointer (some ⟨bB, 0, none⟩)], undef, .pointer (some ⟨z, 0, none⟩), .pointer (some ⟨z + 1, 0, none⟩), .pointer (some ⟨z + 2, 0, none⟩), .pointer (some ⟨Bx, 0, none⟩), .int .i64 (xE x), vT iN, .func (.func 139) #[] #[.pointer (some ⟨bP, 0, none⟩), .pointer (some ⟨bB, 0, none⟩)], vT (xP x), .int .i64 (xE x), undef, undef, undef, undef, undef, undef, undef, undef, undef, undef, undef], defers := [] })
  (fun x a' _ X Y row hs hg hr => by obtain ⟨Bx, h1, h2, h3⟩ := hs; exact ⟨Bx, h1, h2.own hg (fun r e => (hr r e).2), h3⟩)
  ?assign ?body ?done ?stop
 case assign =>
  rintro l' pre x W K hI hK
  rw [e_enc]
  obtain ⟨h1, h2, ⟨m, h3, h4, h5⟩, h6, h7, h8⟩ := hI
  obtain ⟨p, hp⟩ : ∃ p, xP x = p := ⟨_, rfl⟩
  obtain ⟨e, he⟩ : ∃ e, xE x = e := ⟨_, rfl⟩
  rw [hp, he] at hK ⊢
  have AP' : Below W.heap.size W (W.alloc (.cells #[.int .u64 (p.X : Int), .int .u64 (p.Y : Int), .bool p.I] 72)) := (Below.refl _ _).alloc (Nat.le_refl _) _
  gi_wp2
  exact hK _ _ ((jbm AP').from _) (fun h => h.below AP') ⟨h1.below AP', h2.below AP', ⟨m, h3, h4, h5.below AP'⟩, h6.below AP', jaa h7 (by omega) AP', Nat.lt_of_lt_of_le h8 AP'.size⟩ ⟨W.heap.size, h8, World.alloc_heap_new W _, rfl⟩
 case body =>
  rintro l' pre x a' W hl' ⟨r, hr⟩ ⟨hO, hE, ⟨m, hm, hmg, hM⟩, hT, hB, hxW⟩ ⟨Bx, hBx, hX, rfl⟩ hlt
  have hsn := toE_app iN pre [x]
  rw [hm] at hsn
  cases hv : x.val with
  | none =>
   have e1 : xP x = oP := by unfold xP; rw [hv]; rfl
   have e2 : xE x = 100 := by unfold xE; rw [hv]; rfl
   have e3 : toE iN (pre ++ [x]) = none := by rw [hsn]; show toE m [x] = none; rw [toE, hv]
   rw [e2]
   have o0 : W.cell? ⟨z, 0, none⟩ = some (.int .u64 0) := hO.cell 0
   have o1 : W.cell? ⟨z, 1, none⟩ = some (.int .u64 0) := hO.cell 1
   have o2 : W.cell? ⟨z, 2, none⟩ = some (.bool false) := hO.cell 2
   have fo : ∀ o, W.frozen? ⟨z, o, none⟩ = false := fun o => hO.fr o
   have q0 : W.cell? ⟨z + 1, 0, none⟩ = some (.int .i64 0) := hE.cell 0
   have fq : ∀ o, W.frozen? ⟨z + 1, o, none⟩ = false := fun o => hE.fr o
   obtain ⟨V, hV⟩ : ∃ V, (Go.Proofs.YtoddangedbefgabGreatDoor.put3 z oP W).setCell ⟨z + 1, 0, none⟩ (.int .i64 100) = V := ⟨_, rfl⟩
   have kV : KeepsFrom w2.heap.size W V := by rw [← hV]; exact (jfo _ z oP _).trans (jdb _ _ _ _)
   have oV : PtB z oP V := by rw [← hV]; exact Bq.other (PtB.put hO oP) (by omega) _ _
   have eV : Bq (z + 1) 39 #[.int .i64 100] V := by rw [← hV]; exact Bq.put (((Bq.other hE (by omega) _ _).other (by omega) _ _).other (by omega) _ _) _
   have bV : Below z w V := by rw [← hV]; exact (jah hB (Nat.le_refl _) oP).setCell (p := ⟨z + 1, 0, none⟩) (by show z ≤ z + 1; omega) _
   have zV : z + 2 < V.heap.size := by rw [← hV]; simpa [World.setCell] using hxW
   have this : KeepsFrom w2.heap.size W V ∧ toE iN (pre ++ [x]) = none ∧ PtB z oP V ∧ Bq (z + 1) 39 #[.int .i64 100] V ∧ Below z w V ∧ z + 2 < V.heap.size := ⟨kV, e3, oV, eV, bV, zV⟩
   have HT : Hid _ := this
   rw [← hV] at HT
   clear this kV oV eV bV zV hV hO hE hM hT hB e3 hsn hm hmg hX e1 e2
   gi_wp2
   obtain ⟨h1, h2, h3, h4, h5, h6⟩ := HT.out
   refine (?_ : KeepsFrom _ W _ ∧ Code.ret = .ret ∧ _ ∧ _ ∧ _ ∧ _ ∧ _)
   refine ⟨?_, rfl, h2, h3, h4, h5, h6⟩
   first | exact h1 | (rw [hs2] at h1; exact h1)
  | some p =>
   have e1 : xP x = p := by unfold xP; rw [hv]; rfl
   have e2 : xE x = 0 := by unfold xE; rw [hv]; rfl
   have e3 : toE iN (pre ++ [x]) = some (smN m p) := by rw [hsn]; show toE m [x] = _; rw [toE, hv]; rfl
   have hpg := x.2 p hv
   rw [e2, e1]
   rw [e1] at hX
   have CA := add_all m p (wl_u (jbs (jdu hmg))) (wl_u (jbs (jdu hpg)))
   have eA : addV m p = okT (smN m p) := by unfold addV; rw [jdu hmg, jdu hpg]; rfl
   rw [eA] at CA
   have hsg := gr_sm hmg hpg
   obtain ⟨s, hs⟩ : ∃ s, smN m p = s := ⟨_, rfl⟩
   rw [hs] at CA hsg e3
   clear hs eA hsn hm hv e1 e2 hmg hpg
   have m0 : W.cell? ⟨z + 2, 0, none⟩ = some (.int .u64 (m.X : Int)) := hM.cell 0
   have m1 : W.cell? ⟨z + 2, 1, none⟩ = some (.int .u64 (m.Y : Int)) := hM.cell 1
   have m2' : W.cell? ⟨z + 2, 2, none⟩ = some (.bool m.I) := hM.cell 2
   have p0 : W.cell? ⟨Bx, 0, none⟩ = some (.int .u64 (p.X : Int)) := hX.cell 0
   have p1 : W.cell? ⟨Bx, 1, none⟩ = some (.int .u64 (p.Y : Int)) := hX.cell 1
   have p2 : W.cell? ⟨Bx, 2, none⟩ = some (.bool p.I) := hX.cell 2
   have hLi := hT.s.p.l
   have HH : Hid (_ ∧ _ ∧ _ ∧ _ ∧ _) := ⟨hO, hE, hM, hT, hB⟩
   clear hO hE hM hT hB hX
   gi_wp2_with fail
   refine ⟨trivial, (CallsIn.inRound l' (callsIn_wide.2 (CA _ hLi))).mono ?_⟩
   rintro e' W4 ⟨rfl, B4⟩
   obtain ⟨hO, hE, hM, hT, hB⟩ := HH.out
   have O4 := hO.below B4
   have E4 := hE.below B4
   have M4 := hM.below B4
   have T4 := hT.below B4
   have BW4 := jaa hB (by omega) B4
   have c0 : W4.cell? ⟨z + 2, 0, none⟩ = some (.int .u64 (m.X : Int)) := M4.cell 0
   have c1 : W4.cell? ⟨z + 2, 1, none⟩ = some (.int .u64 (m.Y : Int)) := M4.cell 1
   have c2 : W4.cell? ⟨z + 2, 2, none⟩ = some (.bool m.I) := M4.cell 2
   have fo : ∀ o, W4.frozen? ⟨z + 2, o, none⟩ = false := fun o => M4.fr o
   have hz4 := B4.size
   obtain ⟨V, hV⟩ : ∃ V, Go.Proofs.YtoddangedbefgabGreatDoor.put3 (z + 2) s W4 = V := ⟨_, rfl⟩
   have BzV : Below z W4 V := by rw [← hV]; exact jah (Below.refl _ _) (by omega) s
   have kV : KeepsFrom w2.heap.size W V := by rw [← hV]; exact ((jbm B4).from _).trans (jfo _ (z + 2) s _)
   have oV : PtB z oP V := by rw [← hV]; exact PtB.other O4 (by omega) s
   have eV : Bq (z + 1) 39 #[.int .i64 0] V := by rw [← hV]; exact ((Bq.other E4 (by omega) _ _).other (by omega) _ _).other (by omega) _ _
   have mV : PtB (z + 2) s V := by rw [← hV]; exact PtB.put M4 s
   have bV : Below z w V := by rw [← hV]; exact jah BW4 (by omega) s
   have zV : z + 2 < V.heap.size := by rw [← hV, jdh]; omega
   have hdV : ∀ {X : World}, HdIn bP bB b g l a c X → Below X.heap.size X W4 → HdIn bP bB b g l a c V := fun h hb => (h.below hb).belowN BzV b1 b2 b3 b4 htop
   have this : KeepsFrom w2.heap.size W V ∧ HdK bP bB b g l a c W V ∧ PtB z oP V ∧ Bq (z + 1) 39 #[.int .i64 0] V ∧ (∃ m, toE iN (pre ++ [x]) = some m ∧ grN m = true ∧ PtB (z + 2) m V) ∧ HdIn bP bB b g l a c V ∧ Below z w V ∧ z + 2 < V.heap.size := ⟨kV, fun h => hdV h B4, oV, eV, ⟨s, e3, hsg, mV⟩, hdV hT B4, bV, zV⟩
   have HT : Hid _ := this
   rw [← hV] at HT
   clear this hdV kV oV eV mV bV zV BzV hV O4 E4 M4 T4 BW4 hO hE hM hT hB B4 HH
   gi_wp2
   exact HT.out
 case done =>
  rintro D ys W hD rfl ⟨hO, hE, ⟨v, hm, hmg, hM⟩, hT, hB, hxW⟩ hK
  have hv : totV (toE iN (elsT b l)) = okT v := by rw [hm]; rfl
  have c0 : W.cell? ⟨z + 2, 0, none⟩ = some (.int .u64 (v.X : Int)) := hM.cell 0
  have c1 : W.cell? ⟨z + 2, 1, none⟩ = some (.int .u64 (v.Y : Int)) := hM.cell 1
  have c2 : W.cell? ⟨z + 2, 2, none⟩ = some (.bool v.I) := hM.cell 2
  have o0 : W.cell? ⟨z, 0, none⟩ = some (.int .u64 0) := hO.cell 0
  have o1 : W.cell? ⟨z, 1, none⟩ = some (.int .u64 0) := hO.cell 1
  have o2 : W.cell? ⟨z, 2, none⟩ = some (.bool false) := hO.cell 2
  have fo : ∀ o, W.frozen? ⟨z, o, none⟩ = false := fun o => hO.fr o
  have q0 : W.cell? ⟨z + 1, 0, none⟩ = some (.int .i64 0) := hE.cell 0
  have fq : ∀ o, W.frozen? ⟨z + 1, o, none⟩ = false := fun o => hE.fr o
  obtain ⟨V, hV⟩ : ∃ V, (Go.Proofs.YtoddangedbefgabGreatDoor.put3 z v W).setCell ⟨z + 1, 0, none⟩ (.int .i64 0) = V := ⟨_, rfl⟩
  have hK' : V.heap[D]? = some (.deferred (some [])) := by
   rw [← hV]
   show ((((W.setCell _ _).setCell _ _).setCell _ _).setCell _ _).heap[D]? = _
   rw [Below.heap_setCell _ _ _ _ (show D ≠ z + 1 by omega), Below.heap_setCell _ _ _ _ (show D ≠ z by omega), Below.heap_setCell _ _ _ _ (show D ≠ z by omega), Below.heap_setCell _ _ _ _ (show D ≠ z by omega)]
   exact hK
  have hBx : Below z w V := by rw [← hV]; exact (jah hB (Nat.le_refl _) v).setCell (p := ⟨z + 1, 0, none⟩) (by show z ≤ z + 1; omega) _
  have oV : PtB z v (V.putObj D (.deferred none)) := (World.putObj_heap_other (by omega)).trans (by rw [← hV]; exact Bq.other (PtB.put hO v) (by omega) _ _)
  have eV : Bq (z + 1) 39 #[.int .i64 0] (V.putObj D (.deferred none)) := (World.putObj_heap_other (by omega)).trans (by rw [← hV]; exact Bq.put (((Bq.other hE (by omega) _ _).other (by omega) _ _).other (by omega) _ _) _)
  have H8 : Hid (_ ∧ _ ∧ _ ∧ _ ∧ _) := ⟨hK', hBx, oV, eV, hv⟩
  rw [← hV] at H8
  clear hK' hBx oV eV hv hV C2 O2 E2' M2 BW2 hT hO hE hM hm
  go_wp2
  obtain ⟨hK', hBx, oV, eV, hv⟩ := H8.out
  have r0 := oV.cell 0
  have r1 := oV.cell 1
  have r2' := oV.cell 2
  have r3 := eV.cell 0
  have hbP := belowK_b (n₀ := z) (w := w2) (by omega) _ D _ (.deferred none) hD hK' rfl rfl
  refine ⟨by simp, .inl ⟨_, _, rfl, run_takeDeferred hK', ?_⟩⟩
  refine ⟨okT v, by simp [results, Tryz.results119, go_sem, *], by rw [hv], ?_⟩
  rw [HZ.out]
  exact hBx.trans hbP
 case stop =>
  rintro D c' pre W hD ⟨q, hq, rfl⟩ ⟨rfl, hm, hO, hE, hB, hxW⟩ hK
  have hv : totV (toE iN (elsT b l)) = errT := by
   have := toE_none (k := (elsT b l).drop q) hm
   rw [List.take_append_drop] at this
   rw [this]
   rfl
  have oV : PtB z oP (W.putObj D (.deferred none)) := (World.putObj_heap_other (by omega)).trans hO
  have eV : Bq (z + 1) 39 #[.int .i64 100] (W.putObj D (.deferred none)) := (World.putObj_heap_other (by omega)).trans hE
  have H8 : Hid (_ ∧ _ ∧ _ ∧ _ ∧ _) := ⟨hK, hB, oV, eV, hv⟩
  clear hK hB oV eV hv C2 O2 E2' M2 BW2 hO hE hm
  gi_wp2
  obtain ⟨hK', hBx, oV, eV, hv⟩ := H8.out
  have r0 := oV.cell 0
  have r1 := oV.cell 1
  have r2' := oV.cell 2
  have r3 := eV.cell 0
  have hbP := belowK_b (n₀ := z) (w := w2) (by omega) _ D _ (.deferred none) hD hK' rfl rfl
  refine ⟨by simp, .inl ⟨_, _, rfl, run_takeDeferred hK', ?_⟩⟩
  refine ⟨errT, by simp [results, Tryz.results119, go_sem, *], by rw [hv], ?_⟩
  rw [HZ.out]
  exact hBx.trans hbP
end Go.Proofs.YtoddangedbefgabGreatDoor
namespace Go.Proofs.YtoddangedbefgabGreatDoor
open Go.RowKit Go.Shelf Go.Sort
abbrev err100 : Value := .tuple #[.string ⟨#[]⟩, .int .i64 100]
def suV (l : List ByteArray) : Value := match toE iN (elsT false l) with
 | some p => bytV p
 | none => err100
theorem toE_gr : ∀ (l : List El) (m q : Pt), grN m = true → toE m l = some q → grN q = true
 | [], m, q, hm, h => by rw [toE] at h; cases h; exact hm
 | x :: l, m, q, hm, h => by
  rw [toE] at h
  cases hv : x.val with
  | none => rw [hv] at h; cases h
  | some p => rw [hv] at h; exact toE_gr l (smN m p) q (gr_sm hm (x.2 p hv)) h
def hoB (k : Pt) (t s : ByteArray) : Bool := frB s && (!decide (k = iN) && eqP (prN (nmN s) gN) (prN (hsN t) k))
theorem holds_any (k : Pt) (hk : grN k = true) (t s : ByteArray) (ht : t.size ≤ 10000) (w : World) (hL : Ls w) :
  Calls Tryz.prog 121 #[vT k, .string t, .string s] w fun e w' => e = .returned (.bool (hoB k t s)) ∧ Below w.heap.size w w' := by
 have CF := from_any s
 have CH := hash_any t ht
 have hg := (hs_gr t).1
 have AL : Below w.heap.size w (w.alloc (.cells #[.int .u64 (k.X : Int), .int .u64 (k.Y : Int), .bool k.I] 72)) := (Below.refl _ _).alloc (Nat.le_refl _) _
 have TK : Tb w.heap.size k (w.alloc (.cells #[.int .u64 (k.X : Int), .int .u64 (k.Y : Int), .bool k.I] 72)) := Tb.new' w k 72 _ rfl
 have L0 := hL.below AL
 unfold hoB
 cases hf : frB s
 ·have eV : frV s = errT := by unfold frV; rw [hf]; rfl
  rw [eV] at CF
  rw [Bool.false_and]
  go_enter Tryz.func121, Tryz.ntmps121
  go_wp2_with fail
  refine (CF _ L0.p.l).mono ?_
  rintro e w1 ⟨rfl, B1⟩
  have BW1 := jaa AL AL.size B1
  clear AL TK L0 B1 CF CH hL
  go_wp2_with fail
  go_ret
  exact ⟨rfl, BW1.alloc BW1.size _⟩
 ·have eV : frV s = okT (nmN s) := by unfold frV; rw [hf]; rfl
  rw [eV] at CF
  rw [Bool.true_and]
  have hn := fr_gr hf
  have CS := pSame_any (nmN s) gN (hsN t) k (wl_u (jbs (jdu hn))) (wl_u (jbs (jdu gr_gen))) (wl_u (jbs (jdu hg))) (wl_u (jbs (jdu hk)))
  have eS : saV (nmN s) gN (hsN t) k = .tuple #[.bool (eqP (prN (nmN s) gN) (prN (hsN t) k)), .int .i64 0] := by
   unfold saV saB
   rw [hn, gr_gen, hg, hk]
   rfl
  rw [eS] at CS
  obtain ⟨d, hd⟩ : ∃ d, eqP (prN (nmN s) gN) (prN (hsN t) k) = d := ⟨_, rfl⟩
  rw [hd] at CS ⊢
  obtain ⟨n, en⟩ : ∃ n, nmN s = n := ⟨_, rfl⟩
  rw [en] at CS CF
  obtain ⟨h, eh⟩ : ∃ h, hsN t = h := ⟨_, rfl⟩
  rw [eh] at CS CH
  clear hd en eh eS eV hn hg hf
  have hE := eqlI k
  obtain ⟨nX, nY, nI⟩ := n
  by_cases hki : k = iN
  ·rw [decide_eq_true hki] at hE ⊢
   simp only [Bool.not_true, Bool.false_and]
   clear hki
   go_enter Tryz.func121, Tryz.ntmps121
   go_wp2_with fail
   refine (CF _ L0.p.l).mono ?_
   rintro e w1 ⟨rfl, B1⟩
   have BW1 := jaa AL AL.size B1
   have L1 := L0.below B1
   have ⟨tz, t0, t1, t2, tf⟩ := TK.below B1
   clear AL TK L0 B1 CF CH hL
   have lq := L1.ne
   have i0 := L1.i0
   have i1 := L1.i1
   have i2 := L1.i2
   go_wp2_with fail
   go_ret
   exact ⟨rfl, BW1.alloc BW1.size _⟩
  ·rw [decide_eq_false hki] at hE ⊢
   simp only [Bool.not_false, Bool.true_and]
   clear hki
   go_enter Tryz.func121, Tryz.ntmps121
   go_wp2_with fail
   refine (CF _ L0.p.l).mono ?_
   rintro e w1 ⟨rfl, B1⟩
   have BW1 := jaa AL AL.size B1
   have L1 := L0.below B1
   have TK1 := TK.below B1
   have ⟨tz, t0, t1, t2, tf⟩ := TK1
   clear AL TK L0 B1 CF hL
   have lq := L1.ne
   have i0 := L1.i0
   have i1 := L1.i1
   have i2 := L1.i2
   go_wp2_with fail
   refine wpOf (fun V => Below w.heap.size w V ∧ Tb w1.heap.size ⟨nX, nY, nI⟩ V ∧ Tb w.heap.size k V ∧ Ls V) ⟨BW1.alloc BW1.size _, Tb.new' w1 ⟨nX, nY, nI⟩ 72 _ rfl, TK1.alloc _, L1.alloc _⟩ ?_
   rintro V ⟨BV, TNV, TKV, LV⟩
   have c1 := inClassS CH LV
   have c2 := inClassS (fun W hW => CS W hW.p) LV
   have k0 := cell_regrown TNV.a
   have k1 := cell_regrown TNV.b
   have k2 := cell_regrown TNV.c
   have k3 := cell_regrown TKV.a
   have k4 := cell_regrown TKV.b
   have k5 := cell_regrown TKV.c
   have k6 := cell_regrown LV.g0
   have k7 := cell_regrown LV.g1
   have k8 := cell_regrown LV.g2
   have HV : Hid _ := BV
   clear BV TNV TKV LV L1 TK1 BW1 lq i0 i1 i2 tz t0 t1 t2 tf CS CH hE
   refine wp_region_quiet_below (by kernel_rfl) (by kernel_rfl) ?_
   iterate 3 (quiet_step (fail))
   quiet_step (exact c1 _ _)
   quiet_step (fail)
   quiet_step (exact c2 _ _)
   repeat (quiet_step (fail))
   refine wpQuiet_nil ?_
   intro w8 hw8
   have B8 : Below V.heap.size V w8 := by
    obtain ⟨p, rfl⟩ := hw8
    exact below_regrown _ _ _
   have BW8 := jaa HV.out HV.out.size B8
   clear hw8 B8 HV c1 c2 k0 k1 k2 k3 k4 k5 k6 k7 k8
   go_wp2
   go_ret
   exact ⟨by cases d <;> rfl, BW8⟩
def alB (l : List ByteArray) (t s : ByteArray) : Bool := match toE iN (elsT true l) with
 | some p => hoB p t s
 | none => false
theorem all_any (l : List ByteArray) (hl : l.length ≤ 1000) (t s : ByteArray) (ht : t.size ≤ 10000) (a : Option Addr) (c : Nat) (w : World) (hT : txS l a w) (hL : Ls w) :
  Calls Tryz.prog 87 #[.slice a l.length c, .string t, .string s] w fun e w' => e = .returned (.bool (alB l t s)) ∧ Below w.heap.size w w' := by
 have CT := fun bP bB g W h => total_any bP bB true g l hl a c W h
 have hgr := toE_gr (elsT true l) iN
 unfold alB
 obtain ⟨o, ho⟩ : ∃ o, toE iN (elsT true l) = o := ⟨_, rfl⟩
 rw [ho] at CT ⊢
 have hgr : ∀ q, o = some q → grN q = true := fun q e => hgr q gr_inf (by rw [ho, e])
 clear ho
 have lq := hL.ne
 have i0 := hL.i0
 have i1 := hL.i1
 have i2 := hL.i2
 obtain ⟨N, hN⟩ : ∃ N, l.length = N := ⟨_, rfl⟩
 have CH := fun g => handOn_any a (some ⟨g, 0, none⟩) l.length 1 c 1
 rw [hN] at CH ⊢
 have HX : Hid (l.length = N ∧ txS l a w) := ⟨hN, hT⟩
 clear hN hT
 cases o with
 | none =>
  show Calls Tryz.prog 87 #[.slice a N c, .string t, .string s] w fun e w' => e = .returned (.bool false) ∧ Below w.heap.size w w'
  go_enter Tryz.func87, Tryz.ntmps87
  go_wp2_with fail
  refine jay (fun V => Below w.heap.size w V ∧ Tb w.heap.size iN V ∧ Ls V ∧ txS l a V) ⟨(Below.refl _ _).alloc (Nat.le_refl _) _, Tb.new' w iN 72 _ rfl, hL.alloc _, HX.out.2.below ((Below.refl _ _).alloc (Nat.le_refl _) _)⟩ ?_
  rintro V ⟨BV, TV, LV, XV⟩
  refine (CH _ _).mono ?_
  rintro e w1 ⟨rfl, rfl⟩
  have AL := ((Below.refl V.heap.size V).alloc (Nat.le_refl _) (.cells #[.slice a N c] 27)).alloc (by simp) (.cells #[.slice (some ⟨w.heap.size, 0, none⟩) 1 1] 189)
  have HD : HdIn V.heap.size (V.heap.size + 1) true w.heap.size l a c ((V.alloc (.cells #[.slice a N c] 27)).alloc (.cells #[.slice (some ⟨w.heap.size, 0, none⟩) 1 1] 189)) :=
   ⟨by rw [HX.out.1]; exact (jbw V _ _).1, (jbw V _ _).2, XV.below AL, fun _ => TV.below AL, LV.below AL⟩
  have BW1 := jaa BV BV.size AL
  have L1 := LV.below AL
  clear lq i0 i1 i2 BV TV LV XV AL CH
  go_wp2_with fail
  refine (CT _ _ _ _ HD).mono ?_
  rintro e w2 ⟨rfl, B2⟩
  have BW2 := jaa BW1 BW1.size B2
  have L2' := L1.below B2
  clear HD BW1 L1 B2 CT HX hL
  unfold totV
  go_wp2_with fail
  go_ret
  exact ⟨rfl, BW2.alloc BW2.size _⟩
 | some p =>
  show Calls Tryz.prog 87 #[.slice a N c, .string t, .string s] w fun e w' => e = .returned (.bool (hoB p t s)) ∧ Below w.heap.size w w'
  have CO := holds_any p (hgr p rfl) t s ht
  obtain ⟨d, hd⟩ : ∃ d, hoB p t s = d := ⟨_, rfl⟩
  rw [hd] at CO ⊢
  clear hd hgr
  go_enter Tryz.func87, Tryz.ntmps87
  go_wp2_with fail
  refine jay (fun V => Below w.heap.size w V ∧ Tb w.heap.size iN V ∧ Ls V ∧ txS l a V) ⟨(Below.refl _ _).alloc (Nat.le_refl _) _, Tb.new' w iN 72 _ rfl, hL.alloc _, HX.out.2.below ((Below.refl _ _).alloc (Nat.le_refl _) _)⟩ ?_
  rintro V ⟨BV, TV, LV, XV⟩
  refine (CH _ _).mono ?_
  rintro e w1 ⟨rfl, rfl⟩
  have AL := ((Below.refl V.heap.size V).alloc (Nat.le_refl _) (.cells #[.slice a N c] 27)).alloc (by simp) (.cells #[.slice (some ⟨w.heap.size, 0, none⟩) 1 1] 189)
  have HD : HdIn V.heap.size (V.heap.size + 1) true w.heap.size l a c ((V.alloc (.cells #[.slice a N c] 27)).alloc (.cells #[.slice (some ⟨w.heap.size, 0, none⟩) 1 1] 189)) :=
   ⟨by rw [HX.out.1]; exact (jbw V _ _).1, (jbw V _ _).2, XV.below AL, fun _ => TV.below AL, LV.below AL⟩
  have BW1 := jaa BV BV.size AL
  have L1 := LV.below AL
  clear lq i0 i1 i2 BV TV LV XV AL CH
  go_wp2_with fail
  refine (CT _ _ _ _ HD).mono ?_
  rintro e w2 ⟨rfl, B2⟩
  have BW2 := jaa BW1 BW1.size B2
  have L2' := L1.below B2
  clear HD BW1 L1 B2 CT HX hL
  unfold totV
  have A2 : Below w2.heap.size w2 (w2.alloc (.cells #[.int .u64 (p.X : Int), .int .u64 (p.Y : Int), .bool p.I] 72)) := (Below.refl _ _).alloc (Nat.le_refl _) _
  have BW3 := jaa BW2 BW2.size A2
  have L3' := L2'.below A2
  clear A2 BW2 L2'
  go_wp2_with fail
  refine (CO _ L3').mono ?_
  rintro e w3 ⟨rfl, B3⟩
  have BW4 := jaa BW3 BW3.size B3
  clear BW3 L3' B3 CO
  go_wp2_with fail
  go_ret
  exact ⟨by cases d <;> rfl, BW4⟩
end Go.Proofs.YtoddangedbefgabGreatDoor
