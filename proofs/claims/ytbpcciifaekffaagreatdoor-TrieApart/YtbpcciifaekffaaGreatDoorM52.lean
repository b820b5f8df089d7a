/- Lemmas: The reference's Node: a list of 17. The reference's Node and Root, at last. The reference's told. -/
import Derived.Test.YtbpcciifaekffaaGreatDoorM1
import Derived.Test.YtbpcciifaekffaaGreatDoorM10
import Derived.Test.YtbpcciifaekffaaGreatDoorM11
import Derived.Test.YtbpcciifaekffaaGreatDoorM12
import Derived.Test.YtbpcciifaekffaaGreatDoorM13
import Derived.Test.YtbpcciifaekffaaGreatDoorM14
import Derived.Test.YtbpcciifaekffaaGreatDoorM15
import Derived.Test.YtbpcciifaekffaaGreatDoorM16
import Derived.Test.YtbpcciifaekffaaGreatDoorM17
import Derived.Test.YtbpcciifaekffaaGreatDoorM18
import Derived.Test.YtbpcciifaekffaaGreatDoorM19
import Derived.Test.YtbpcciifaekffaaGreatDoorM2
import Derived.Test.YtbpcciifaekffaaGreatDoorM20
import Derived.Test.YtbpcciifaekffaaGreatDoorM21
import Derived.Test.YtbpcciifaekffaaGreatDoorM22
import Derived.Test.YtbpcciifaekffaaGreatDoorM23
import Derived.Test.YtbpcciifaekffaaGreatDoorM24
import Derived.Test.YtbpcciifaekffaaGreatDoorM25
import Derived.Test.YtbpcciifaekffaaGreatDoorM26
import Derived.Test.YtbpcciifaekffaaGreatDoorM27
import Derived.Test.YtbpcciifaekffaaGreatDoorM28
import Derived.Test.YtbpcciifaekffaaGreatDoorM29
import Derived.Test.YtbpcciifaekffaaGreatDoorM3
import Derived.Test.YtbpcciifaekffaaGreatDoorM30
import Derived.Test.YtbpcciifaekffaaGreatDoorM31
import Derived.Test.YtbpcciifaekffaaGreatDoorM32
import Derived.Test.YtbpcciifaekffaaGreatDoorM33
import Derived.Test.YtbpcciifaekffaaGreatDoorM34
import Derived.Test.YtbpcciifaekffaaGreatDoorM35
import Derived.Test.YtbpcciifaekffaaGreatDoorM36
import Derived.Test.YtbpcciifaekffaaGreatDoorM37
import Derived.Test.YtbpcciifaekffaaGreatDoorM38
import Derived.Test.YtbpcciifaekffaaGreatDoorM39
import Derived.Test.YtbpcciifaekffaaGreatDoorM4
import Derived.Test.YtbpcciifaekffaaGreatDoorM40
import Derived.Test.YtbpcciifaekffaaGreatDoorM41
import Derived.Test.YtbpcciifaekffaaGreatDoorM42
import Derived.Test.YtbpcciifaekffaaGreatDoorM43
import Derived.Test.YtbpcciifaekffaaGreatDoorM44
import Derived.Test.YtbpcciifaekffaaGreatDoorM45
import Derived.Test.YtbpcciifaekffaaGreatDoorM46
import Derived.Test.YtbpcciifaekffaaGreatDoorM47
import Derived.Test.YtbpcciifaekffaaGreatDoorM48
import Derived.Test.YtbpcciifaekffaaGreatDoorM49
import Derived.Test.YtbpcciifaekffaaGreatDoorM5
import Derived.Test.YtbpcciifaekffaaGreatDoorM50
import Derived.Test.YtbpcciifaekffaaGreatDoorM51
import Derived.Test.YtbpcciifaekffaaGreatDoorM6
import Derived.Test.YtbpcciifaekffaaGreatDoorM7
import Derived.Test.YtbpcciifaekffaaGreatDoorM8
import Derived.Test.YtbpcciifaekffaaGreatDoorM9
import Derived.Test.YtbpcciifaekffaaGreatDoorRows
namespace Go.Proofs.YtbpcciifaekffaaGreatDoor
open Go.RowKit Go.Shelf Go.Sort

/-- The box of the list that grows. -/
def XB (bX : Nat) (v : Value) (W : World) : Prop := W.heap[bX]? = some (.cells #[.bool true, .string ⟨#[]⟩, v] 47 (0, 0))
theorem XB.lt {bX : Nat} {v : Value} {W : World} (h : XB bX v W) : bX < W.heap.size := (Array.getElem?_eq_some_iff.1 h).1
theorem XB.below {bX : Nat} {v : Value} {W W' : World} (h : XB bX v W) (hb : Below W.heap.size W W') : XB bX v W' := (hb.block _ h.lt).trans h
theorem XB.set {bX : Nat} {v u : Value} {W : World} (h : XB bX v W) : XB bX u (W.setCell ⟨bX, 2, none⟩ u) := by
  unfold XB at h ⊢
  simp [World.setCell, Array.getElem?_modify, h]
/-- Items' cells, one behind the other. -/
def iC (ims : List Im) : List Value := ims.flatMap cell3
theorem iC_snoc (ims : List Im) (im : Im) : iC (ims ++ [im]) = iC ims ++ cell3 im := by simp [iC]
theorem iC_len : ∀ ims : List Im, (iC ims).length = ims.length * 3
  | [] => rfl
  | im :: r => by
    show (cell3 im ++ iC r).length = _
    rw [List.length_append, iC_len r, List.length_cons]
    show 3 + _ = _
    omega
theorem iC_at : ∀ (ims : List Im) (i : Nat) (im : Im), ims[i]? = some im → (iC ims)[3 * i]? = some (.bool im.l) ∧ (iC ims)[3 * i + 1]? = some (.string im.t) ∧ (iC ims)[3 * i + 2]? = some im.sl
  | [], _, _, h => by cases h
  | x :: r, 0, im, h => by
    cases h
    exact ⟨rfl, rfl, rfl⟩
  | x :: r, i + 1, im, h => by
    obtain ⟨h1, h2, h3⟩ := iC_at r i im h
    have e : iC (x :: r) = .bool x.l :: .string x.t :: x.sl :: iC r := rfl
    rw [e, show 3 * (i + 1) = 3 * i + 1 + 1 + 1 by omega]
    exact ⟨by simpa using h1, by simpa [show 3 * i + 1 + 1 + 1 + 1 = (3 * i + 1) + 1 + 1 + 1 by omega] using h2, by simpa [show 3 * i + 1 + 1 + 1 + 2 = (3 * i + 2) + 1 + 1 + 1 by omega] using h3⟩
/-- A row of items that is one's own is items in memory. -/
theorem rowP_owns {p : Nat → Prop} {W : World} {zz g n c : Nat} {ims : List Im} (h : W.ownsRow zz 47 3 (.slice (some ⟨g, 0, none⟩) n c) n (iC ims)) (hg : p g) (hi : ∀ im ∈ ims, inP p W im) : rowP p W (some ⟨g, 0, none⟩) 0 ims := by
  have hl : n = ims.length := by
    have := h.1
    rw [iC_len] at this
    omega
  have key : ∀ (r : List Im) (i : Nat), (∀ j im, r[j]? = some im → ims[i + j]? = some im) → rowP p W (some ⟨g, 0, none⟩) i r := by
    intro r
    induction r with
    | nil => exact fun _ _ => trivial
    | cons x r ih =>
      intro i hr
      have hx := hr 0 x rfl
      rw [Nat.add_zero] at hx
      obtain ⟨h1, h2, h3⟩ := iC_at ims i x hx
      have hlt : i < ims.length := (List.getElem?_eq_some_iff.1 hx).1
      refine ⟨⟨g, 0, hg, rfl, ?_, ?_, ?_⟩, hi x (List.mem_of_getElem? hx), ih (i + 1) fun j im hj => ?_⟩
      · rw [h.cellAt (0 + 3 * i) (by omega), Nat.zero_add, h1]
      · rw [h.cellAt (0 + 3 * i + 1) (by omega), Nat.zero_add, h2]
      · rw [h.cellAt (0 + 3 * i + 2) (by omega), Nat.zero_add, h3]
      · rw [show i + 1 + j = i + (j + 1) by omega]
        exact hr (j + 1) im hj
  exact key ims 0 fun j im hj => by rw [Nat.zero_add]; exact hj
/-- How the list stands: its box, its row, its items. -/
structure FkS (z bX : Nat) (w : World) (k : Nat) (v : Value) (X : List It) (W : World) : Prop where
  b : Below z w W
  r : ItIn z zeroI W
  x : XB bX v W
  i : ∃ ims : List Im, ers ims = X ∧ W.ownsRow (bX + 1) 47 3 v k (iC ims) ∧ ∀ im ∈ ims, inP (fun q => bX < q ∧ q < W.heap.size ∧ some q ≠ v.ownBlock) W im
theorem FkS.below {z bX k : Nat} {w : World} {v : Value} {X : List It} {W W' : World} (h : FkS z bX w k v X W) (hz : z < W.heap.size) (hb : Below W.heap.size W W') : FkS z bX w k v X W' := by
  obtain ⟨ims, h1, h2, h3⟩ := h.i
  refine ⟨belowStep h.b (Nat.le_of_lt hz) hb, (hb.block _ hz).trans h.r, h.x.below hb, ims, h1, owns_below2 h2 hb, fun im him => inP_of (fun q hq => ⟨⟨hq.1, Nat.lt_of_lt_of_le hq.2.1 hb.size, hq.2.2⟩, fun k => hb.cell (p := ⟨q, k, none⟩) hq.2.1⟩) im (h3 im him)⟩
theorem ers_snoc (ims : List Im) (im : Im) : ers (ims ++ [im]) = ers ims ++ [er im] := by
  induction ims with
  | nil => rfl
  | cons x r ih =>
    show er x :: ers (r ++ [im]) = er x :: ers r ++ [er im]
    rw [ih]
    rfl
/-- One more: the row behind the append, the box behind the store. -/
theorem fk_more {z bX k : Nat} {w : World} {v v' : Value} {X : List It} {x : It} {W W1 : World} {ims : List Im} {im : Im} (hb : Below z w W) (hr : ItIn z zeroI W) (hx : XB bX v W) (h1 : ers ims = X) (h3 : ∀ im ∈ ims, inP (fun q => bX < q ∧ q < W.heap.size ∧ some q ≠ v.ownBlock) W im)
    (him : inP (fun q => bX < q ∧ q < W.heap.size ∧ some q ≠ v.ownBlock) W im) (he : er im = x) (hzX : z < bX) (own' : W1.ownsRow (bX + 1) 47 3 v' (k + 1) (iC ims ++ cell3 im)) (hgr : W.grownBy W1 v.ownBlock) (hob : ∀ q, v.ownBlock = some q → bX < q)
    (hv' : v'.ownBlock = v.ownBlock ∨ ∃ g, v'.ownBlock = some g ∧ W.heap.size ≤ g) : FkS z bX w (k + 1) v' (X ++ [x]) (W1.setCell ⟨bX, 2, none⟩ v') := by
  have hxl := hx.lt
  have hne : some bX ≠ v.ownBlock := fun e => by have := hob bX e.symm; omega
  have hnz : some z ≠ v.ownBlock := fun e => by have := hob z e.symm; omega
  have hx1 : XB bX v W1 := (hgr.block bX hxl hne).trans hx
  have keep : ∀ q, (bX < q ∧ q < W.heap.size ∧ some q ≠ v.ownBlock) → (bX < q ∧ q < (W1.setCell ⟨bX, 2, none⟩ v').heap.size ∧ some q ≠ v'.ownBlock) ∧ ∀ k, (W1.setCell ⟨bX, 2, none⟩ v').cell? ⟨q, k, none⟩ = W.cell? ⟨q, k, none⟩ := fun q hq => by
    have hs := hgr.size
    refine ⟨⟨hq.1, ?_, ?_⟩, fun k => ?_⟩
    · have : (W1.setCell ⟨bX, 2, none⟩ v').heap.size = W1.heap.size := by simp [World.setCell]
      rw [this]
      omega
    · rcases hv' with e | ⟨g, e, hg⟩
      · rw [e]; exact hq.2.2
      · rw [e]
        intro e2
        injection e2 with e2
        omega
    · exact World.cell?_of_block ((Below.heap_setCell _ _ _ _ (by show q ≠ bX; omega)).trans (hgr.block q hq.2.1 hq.2.2))
  refine ⟨(hb.grown hgr (by omega) (fun q e => by have := hob q e; omega)).setCell (by show z ≤ bX; omega) _, (Below.heap_setCell _ _ _ _ (by show z ≠ bX; omega)).trans ((hgr.block z (by omega) hnz).trans hr), hx1.set, ims ++ [im], by rw [ers_snoc, h1, he], ?_, fun im' him' => ?_⟩
  · rw [iC_snoc]
    refine own'.kept (row := some bX) ⟨rfl, rfl, rfl, by simp [World.setCell], fun q _ hq => Below.heap_setCell _ _ _ _ (fun e => hq (by simp [e]))⟩ ?_
    cases hvb : v'.ownBlock with
    | none => exact .inl rfl
    | some q =>
      refine .inr fun e => ?_
      injection e with e
      have := (own'.lt q hvb).1
      omega
  · rcases List.mem_append.1 him' with h | h
    · exact inP_of keep _ (h3 im' h)
    · rw [List.mem_singleton.1 h]
      exact inP_of keep _ him
/-- What holds while a statement runs. -/
structure HvK (V : World) (bX d M c3 : Nat) (a3 : Option Addr) (v : Value) (y : It) (S : Nat → Bool) (x71 x72 x73 x74 x75 x76 x77 : Value) (W : World) : Prop where
  e : Below V.heap.size V W
  f0 : S 0 = true → x71 = Value.pointer (some ⟨bX, 2, none⟩)
  f1 : S 1 = true → x72 = v
  f2 : S 2 = true → x73 = Value.slice a3 M c3
  f3 : S 3 = true → x74 = Value.int .i64 (d : Int)
  f4 : S 4 = true → x75 = Value.int .i64 ((d + 1 : Nat) : Int)
  f5 : S 5 = true → ∃ im : Im, x76 = im.val ∧ er im = y ∧ inP (fun q => V.heap.size ≤ q ∧ q < W.heap.size) W im
  f6 : S 6 = true → ∃ (im : Im) (g : Nat), x77 = .slice (some ⟨g, 0, none⟩) 1 1 ∧ V.heap.size ≤ g ∧ g < W.heap.size ∧ W.heap[g]? = some (.cells #[.bool im.l, .string im.t, im.sl] 47 (0, 0)) ∧ er im = y ∧ inP (fun q => V.heap.size ≤ q ∧ q < W.heap.size) W im
theorem HvK.grow {V : World} {bX d M c3 : Nat} {a3 : Option Addr} {v : Value} {y : It} {S : Nat → Bool} {x71 x72 x73 x74 x75 x76 x77 : Value} {W W' : World} (h : HvK V bX d M c3 a3 v y S x71 x72 x73 x74 x75 x76 x77 W) (hb : Below W.heap.size W W') : HvK V bX d M c3 a3 v y S x71 x72 x73 x74 x75 x76 x77 W' :=
  ⟨belowStep h.e h.e.size hb, h.f0, h.f1, h.f2, h.f3, h.f4, fun s => (h.f5 s).imp fun _ ⟨j1, j2, j3⟩ => ⟨j1, j2, inP_of (fun q hq => ⟨⟨hq.1, Nat.lt_of_lt_of_le hq.2 hb.size⟩, fun k => hb.cell (p := ⟨q, k, none⟩) hq.2⟩) _ j3⟩, fun s => let ⟨im, g, j1, j0, j2, j3, j4, j5⟩ := (h.f6 s); ⟨im, g, j1, j0, Nat.lt_of_lt_of_le j2 hb.size, (hb.block _ j2).trans j3, j4, inP_of (fun q hq => ⟨⟨hq.1, Nat.lt_of_lt_of_le hq.2 hb.size⟩, fun k => hb.cell (p := ⟨q, k, none⟩) hq.2⟩) _ j5⟩⟩
/-- What holds while a statement runs. -/
structure EvK (V : World) (bX d N c : Nat) (a : Option Addr) (v : Value) (vl : ByteArray) (S : Nat → Bool) (x80 x81 x82 x83 x84 x85 x86 : Value) (W : World) : Prop where
  e : Below V.heap.size V W
  f0 : S 0 = true → x80 = Value.pointer (some ⟨bX, 2, none⟩)
  f1 : S 1 = true → x81 = v
  f2 : S 2 = true → x82 = Value.slice a N c
  f3 : S 3 = true → x83 = Value.int .i64 (d : Int)
  f4 : S 4 = true → x84 = Value.string vl
  f5 : S 5 = true → x85 = Value.agg #[.bool false, .string vl, .slice none 0 0]
  f6 : S 6 = true → ∃ (g : Nat), x86 = .slice (some ⟨g, 0, none⟩) 1 1 ∧ V.heap.size ≤ g ∧ g < W.heap.size ∧ W.heap[g]? = some (.cells #[.bool false, .string vl, .slice none 0 0] 47 (0, 0))
theorem EvK.grow {V : World} {bX d N c : Nat} {a : Option Addr} {v : Value} {vl : ByteArray} {S : Nat → Bool} {x80 x81 x82 x83 x84 x85 x86 : Value} {W W' : World} (h : EvK V bX d N c a v vl S x80 x81 x82 x83 x84 x85 x86 W) (hb : Below W.heap.size W W') : EvK V bX d N c a v vl S x80 x81 x82 x83 x84 x85 x86 W' :=
  ⟨belowStep h.e h.e.size hb, h.f0, h.f1, h.f2, h.f3, h.f4, h.f5, fun s => (h.f6 s).imp fun _ ⟨j1, j0, j2, j3⟩ => ⟨j1, j0, Nat.lt_of_lt_of_le j2 hb.size, (hb.block _ j2).trans j3⟩⟩
set_option maxRecDepth 20000 in
set_option maxHeartbeats 4000000 in
theorem node_fork (f : Nat) (hRC : ReC f) (p0 : Pr) (rs : List Pr) (h2 : 1 ≤ rs.length) (d : Nat) (hf : 129 ≤ f + 1 + d) (hr : RightP (p0 :: rs)) (hok : Ok d (ents (srt (p0 :: rs)))) (ha : alkV d (enP p0) (rs.map enP) = 0) (a : Option Addr) (c n : Nat) (w : World) (hn : n ≤ w.heap.size) (hp : slP n w a (p0 :: rs)) :
    Calls Tryz.prog 45 #[.slice a (p0 :: rs).length c, .int .i64 d] w fun e w' => Below w.heap.size w w' ∧ ∃ im : Im, e = .returned im.val ∧ er im = noF (f + 1) d (p0 :: rs) ∧ inP (fun q => w.heap.size ≤ q ∧ q < w'.heap.size) w' im := by
  obtain ⟨i0, hi0, hz0, hz1, hz2⟩ := info_parts info_item
  have hsz : ∀ p ∈ p0 :: rs, p.1.size ≤ 64 := fun p hp => by
    obtain ⟨j, hj⟩ := List.getElem?_of_mem hp
    exact ((pOk_iff p).1 (hr.2.1 j p hj)).2.1
  have hdd : ∀ p ∈ p0 :: rs, d ≤ (ofOf p.1).size := fun p hp => by
    have := (Ok_iff d _).1 hok
    exact (this.2.2.1 (enP p) (mem_ents.2 ⟨p, hp, rfl⟩)).1
  have hd128 : d ≤ 128 := by
    have h1 := hdd p0 (by simp)
    have h3 := hsz p0 (by simp)
    have h4 := of_sz p0.1
    omega
  have hno := noF_fork (f := f) hr hok h2 ha
  obtain ⟨NF, hNF⟩ : ∃ NF, noF (f + 1) d (p0 :: rs) = NF := ⟨_, rfl⟩
  rw [hNF] at hno ⊢
  clear hNF
  have A0 := be_new w (.cells #[.bool false, .string ⟨#[]⟩, .slice none 0 0] 47)
  have hR0 := zero_new w
  have hp0 := slP_below (A0.mono hn) hp
  have hn0 : n ≤ (w.alloc (.cells #[.bool false, .string ⟨#[]⟩, .slice none 0 0] 47)).heap.size := Nat.le_trans hn A0.size
  have KA := alike_any p0 rs hsz hr.1 d hdd a c n _ hn0 hp0
  rw [ha] at KA
  have h1N : 2 ≤ (p0 :: rs).length := by rw [List.length_cons]; omega
  obtain ⟨ps, hps⟩ : ∃ ps, p0 :: rs = ps := ⟨_, rfl⟩
  rw [hps] at hr hok hp hp0 hsz hdd KA hno h1N ⊢
  clear hps ha
  have KH := fun h a c n w hn hp => having_any ps hsz hr.1 d h a c n w hn hp
  have KE := fun a c n w hn hp => ending_any ps hsz hr.1 d a c n w hn hp
  have KR := fun (h : Int) (h0 : (hvP d h ps).length ≠ 0) => hRC (hvP d h ps) (d + 1) (by omega) (right_sub hr List.filter_sublist) (by rw [hv_srt hr]; exact hok.going h (by rw [← hv_srt hr, ents_len, (srt_perm _).length_eq]; exact h0))
  obtain ⟨VL, hVL⟩ : ∃ VL : Nat → It, (fun h : Nat => if (hvP d (h : Nat) ps).length = 0 then zIt else refI (noF f (d + 1) (hvP d (h : Nat) ps))) = VL := ⟨_, rfl⟩
  rw [hVL] at hno
  obtain ⟨N, hN⟩ : ∃ N, ps.length = N := ⟨_, rfl⟩
  have l1 : ((N : Int) == 1) = false := by rw [beq_eq_false_iff_ne]; omega
  rw [hN] at KA ⊢
  have HP : Hid _ := hp
  have HN : Hid (ps.length = N) := hN
  have HNO : Hid _ := hno
  have HVL : Hid _ := hVL
  have wd : IntKind.i64.wrap ((d : Int) + 1) = ((d + 1 : Nat) : Int) := by rw [IntKind.wrap_i64]; omega
  clear hp hp0 hsz hdd hN hno hVL h2 h1N
  go_enter Tryz.func45, Tryz.ntmps45
  go_wp2_with fail
  refine KA.mono ?_
  rintro e w1 ⟨rfl, B1⟩
  have BW1 := belowStep A0 A0.size B1
  have hR1 : ItIn w.heap.size zeroI w1 := (B1.block _ (by simp)).trans hR0
  have hlt1 : w.heap.size < w1.heap.size := by have := B1.size; simp at this; omega
  have A2 := be_new w1 (.cells #[.bool true, .string ⟨#[]⟩, .slice none 0 0] 47)
  have hX2 : XB w1.heap.size (.slice none 0 0) (w1.alloc (.cells #[.bool true, .string ⟨#[]⟩, .slice none 0 0] 47)) := World.alloc_heap_new w1 _
  have hs2 : (w1.alloc (.cells #[.bool true, .string ⟨#[]⟩, .slice none 0 0] 47)).heap.size = w1.heap.size + 1 := by simp
  have BW2 := belowStep BW1 (by omega) A2
  have hR2 := (A2.block _ hlt1).trans hR1
  clear KA A0 hR0 B1 A2 BW1 hR1
  obtain ⟨z, hz⟩ : ∃ z, w.heap.size = z := ⟨_, rfl⟩
  have HZ : Hid (w.heap.size = z) := hz
  rw [hz] at hlt1 BW2 hR2 hn
  obtain ⟨bX, hbX⟩ : ∃ b, w1.heap.size = b := ⟨_, rfl⟩
  rw [hbX] at hX2 hs2 hlt1
  have hF0 : FkS z bX w 0 (.slice none 0 0) [] (w1.alloc (.cells #[.bool true, .string ⟨#[]⟩, .slice none 0 0] 47)) := ⟨BW2, hR2, hX2, [], rfl, World.ownsRow_nil _ _ _ _, fun im h => by cases h⟩
  have HF0 : Hid _ := hF0
  have HBX : Hid _ := hbX
  clear hz BW2 hR2 hX2 hF0
  go_wp2_with fail
  go_loopg [8] 16 (fun gk i wr => ∃ (k : Nat) (v : Value), k + gk = 16 ∧ i = .int .i64 k ∧ bX < wr.heap.size ∧ Hid (FkS z bX w k v ((List.range k).map VL) wr))
  case atStart => exact ⟨0, _, by omega, rfl, by rw [hs2]; omega, HF0.out⟩
  case round =>
    obtain ⟨k, v, hk, rfl, hbx, hF⟩ := hrel
    by_cases hlt : k < 16
    · have l3 : (k : Int) < 16 := by omega
      have wk : IntKind.i64.wrap ((k : Int) + 1) = ((k + 1 : Nat) : Int) := by rw [IntKind.wrap_i64]; omega
      have w8k : IntKind.u8.wrap (k : Int) = (k : Int) := by rw [IntKind.wrap_u8]; omega
      have hzw : z ≤ wr.heap.size := by omega
      have K1 := KH (k : Int) a c n wr (by omega) (slP_below (hF.out.b.mono hn) HP.out)
      rw [HN.out] at K1
      go_wp2_with fail
      refine K1.mono ?_
      rintro e w3 ⟨B3, a3, c3, rfl, hp3⟩
      have hF3 : FkS z bX w k v ((List.range k).map VL) w3 := hF.out.below (by omega) B3
      have hs3 := B3.size
      have hbx3 : bX < w3.heap.size := by omega
      obtain ⟨HVk, hHV⟩ : ∃ q, hvP d (k : Int) ps = q := ⟨_, rfl⟩
      have HVK : Hid _ := hHV
      clear hF K1
      obtain ⟨ims, m1, m2, m3⟩ := hF3.i
      have hob : ∀ q, v.ownBlock = some q → bX < q := fun q e => by have := (m2.lt q e).1; omega
      have c2 : w3.cell? ⟨bX, 2, none⟩ = some v := by rw [Lib.cell_of_heap hF3.x]; rfl
      have g2 := Lib.frozen_of_heap hF3.x 2
      by_cases hm0 : (hvP d (k : Int) ps).length = 0
      · have hval : VL k = zIt := by
          rw [← HVL.out]
          show (if _ then _ else _) = _
          rw [if_pos hm0]
        rw [hm0]
        have A4 := be_new w3 (.cells #[.bool false, .string ⟨#[]⟩, .slice none 0 0] 47)
        have hnew := World.alloc_heap_new w3 (.cells #[.bool false, .string ⟨#[]⟩, .slice none 0 0] 47)
        have hF4 := hF3.below (by omega) A4
        have m2' := owns_below2 m2 A4
        have HV : Hid (_ ∧ _ ∧ _ ∧ _ ∧ _ ∧ _) := ⟨hF4, m2', hnew, m1, m3, A4⟩
        have hs4 := A4.size
        clear hF3 m2 hF4 m2' hnew m1 A4 hp3 m3
        go_wp2_with (at_builtin; refine wpList_append_where _ rfl _ _ 45 rfl (bX + 1) 47 i0 _ 3 48 Tryz.underlying45 hi0 hz0 hz1 hz2 rfl (by decide) _ k _ rfl HV.out.2.1 ⟨w3.heap.size, 0, none⟩ 1 1 [.bool false, .string ⟨#[]⟩, .slice none 0 0] rfl rfl ?c1 ?c2 (by unfold maxLen; omega) (by omega) ?c3 (by decide) ?_)
        case c1 =>
          intro j u hj
          rw [Addr.add_lit, Lib.cell_of_heap HV.out.2.2.1, Nat.zero_add]
          simpa using hj
        case c2 =>
          intro u hu
          simp only [List.mem_cons, List.not_mem_nil, or_false] at hu
          rcases hu with rfl | rfl | rfl <;> rfl
        case c3 => omega
        intro v' w6 a2 a3 a4 a5
        obtain ⟨gg, cc, rfl⟩ : ∃ g c, v' = .slice (some ⟨g, 0, none⟩) (k + 1) c := by
          rcases a2.2 with ⟨h, _⟩ | ⟨g, c, _, h, _⟩
          · exact absurd h a4
          · exact ⟨g, c, h⟩
        obtain ⟨hF4, m2', hnew, m1, m3, A4⟩ := HV.out
        have hF6 : FkS z bX w (k + 1) (.slice (some ⟨gg, 0, none⟩) (k + 1) cc) ((List.range (k + 1)).map VL) (w6.setCell ⟨bX, 2, none⟩ (.slice (some ⟨gg, 0, none⟩) (k + 1) cc)) := by
          rw [List.range_succ, List.map_append, List.map_singleton, hval]
          exact fk_more (im := .mk false ⟨#[]⟩ none 0 []) hF4.b hF4.r hF4.x m1 (fun im him => inP_of (fun q hq => ⟨⟨hq.1, Nat.lt_of_lt_of_le hq.2.1 A4.size, hq.2.2⟩, fun j => A4.cell (p := ⟨q, j, none⟩) hq.2.1⟩) im (m3 im him)) trivial rfl hlt1 a2 a3 hob (by rw [World.size_alloc]; exact a5)
        have hne6 : some bX ≠ v.ownBlock := fun e => by have := hob bX e.symm; omega
        have hx6 : XB bX v w6 := (a3.block bX (by omega) hne6).trans hF4.x
        have c6 : w6.cell? ⟨bX, 2, none⟩ = some v := by rw [Lib.cell_of_heap hx6]; rfl
        have g6 := Lib.frozen_of_heap hx6 2
        have hs6 := a3.size
        have HF6 : Hid _ := hF6
        clear a2 a3 a4 a5 hF4 m2' hnew m1 m3 A4 HV hF6 hx6 c2 g2
        go_wp2
        go_roundg (gk - 1)
        case measure => omega
        case rel => exact ⟨k + 1, _, by omega, by first | rfl | (congr 1; omega), by simp [World.setCell]; omega, HF6.out⟩
      · have hval : VL k = refI (noF f (d + 1) (hvP d (k : Int) ps)) := by
          rw [← HVL.out]
          show (if _ then _ else _) = _
          rw [if_neg hm0]
        have KK := fun W (hbW : Below w3.heap.size w3 W) => KR (k : Int) hm0 a3 c3 w3.heap.size W hbW.size (slP_below hbW hp3)
        obtain ⟨M, hM⟩ : ∃ M, (hvP d (k : Int) ps).length = M := ⟨_, rfl⟩
        obtain ⟨y, hy⟩ : ∃ y, refI (noF f (d + 1) (hvP d (k : Int) ps)) = y := ⟨_, rfl⟩
        rw [hM] at KK hm0 ⊢
        rw [hy] at KK hval
        have lM : ((M : Int) == 0) = false := by rw [beq_eq_false_iff_ne]; omega
        have HV : Hid (_ ∧ _ ∧ _ ∧ _) := ⟨hF3, m1, m2, m3⟩
        have hF3x : XB bX v w3 := hF3.x
        clear hF3 m1 m2 m3 hM hy hHV hp3 hm0
        go_wp2_with fail
        refine region_inv_tail 7 (fun S aa W => ∃ x71 x72 x73 x74 x75 x76 x77 : Value, aa = { tmps := #[Value.slice a N c, Value.int IntKind.i64 (d : Int), undef, undef, Value.pointer (some ⟨w.heap.size, 0, none⟩), Value.int IntKind.i64 0, undef, Value.pointer (some ⟨bX, 0, none⟩), Value.int IntKind.i64 (k : Int), Value.slice a3 M c3, Value.slice a N c, Value.int IntKind.i64 (N : Int), Value.bool false, undef, undef, undef, undef, undef, undef, undef, undef, undef, undef, undef, undef, undef, undef, undef, Value.slice a N c, Value.int IntKind.i64 (d : Int), Value.int IntKind.i64 0, Value.int IntKind.i64 0, Value.bool false, undef, undef, undef, undef, undef, undef, undef, undef, undef, undef, undef, undef, undef, undef, undef, undef, undef, undef, undef, Value.agg #[Value.bool true, Value.string ⟨#[]⟩, Value.slice none 0 0], Value.int IntKind.i64 (k : Int), Value.bool true, u55, u56, Value.slice a N c, Value.int IntKind.i64 (d : Int), Value.int IntKind.i64 (k : Int), Value.int IntKind.u8 (k : Int), Value.slice a3 M c3, Value.slice a3 M c3, Value.int IntKind.i64 (M : Int), Value.bool false, u65, u66, u67, u68, u69, u70, x71, x72, x73, x74, x75, x76, x77, u78, u79, undef, undef, undef, undef, undef, undef, undef, undef, undef, undef], defers := [] } ∧ HvK w3 bX d M c3 a3 v y S x71 x72 x73 x74 x75 x76 x77 W) (by kernel_rfl) (by kernel_rfl) ?_ ?_ ?_
        · exact ⟨u71, u72, u73, u74, u75, u76, u77, rfl, ⟨(Below.refl _ w3).drew, nofun, nofun, nofun, nofun, nofun, nofun, nofun⟩⟩
        · intro i o S aa W hin hi hun hJ hall K hK
          obtain ⟨x71, x72, x73, x74, x75, x76, x77, rfl, h⟩ := hJ
          have hlt : i < 7 := hin
          have hcase : i = 0 ∨ i = 1 ∨ i = 2 ∨ i = 3 ∨ i = 4 ∨ i = 5 ∨ i = 6 := by omega
          rcases hcase with rfl | rfl | rfl | rfl | rfl | rfl | rfl
          all_goals (have ho := (Option.some.inj hi).symm; subst ho; clear hi hlt hin)
          · go_simp
            exact hK _ _ ⟨_, x72, x73, x74, x75, x76, x77, rfl, ⟨h.e, fun _ => rfl, h.f1, h.f2, h.f3, h.f4, h.f5, h.f6⟩⟩
          · have s_0 : S 0 = true := hall ⟨0, .data⟩ (by simp) rfl
            obtain rfl := h.f0 s_0
            have cW : W.cell? ⟨bX, 2, none⟩ = some v := by rw [h.e.cell (p := ⟨bX, 2, none⟩) hbx3, Lib.cell_of_heap hF3x]; rfl
            go_simp
            exact hK _ _ ⟨_, _, x73, x74, x75, x76, x77, rfl, ⟨h.e, h.f0, fun _ => rfl, h.f2, h.f3, h.f4, h.f5, h.f6⟩⟩
          · go_simp
            exact hK _ _ ⟨x71, x72, _, x74, x75, x76, x77, rfl, ⟨h.e, h.f0, h.f1, fun _ => rfl, h.f3, h.f4, h.f5, h.f6⟩⟩
          · go_simp
            exact hK _ _ ⟨x71, x72, x73, _, x75, x76, x77, rfl, ⟨h.e, h.f0, h.f1, h.f2, fun _ => rfl, h.f4, h.f5, h.f6⟩⟩
          · have s_3 : S 3 = true := hall ⟨3, .data⟩ (by simp) rfl
            obtain rfl := h.f3 s_3
            go_simp
            exact hK _ _ ⟨x71, x72, x73, _, _, x76, x77, rfl, ⟨h.e, h.f0, h.f1, h.f2, h.f3, fun _ => by first | rfl | (congr 1), h.f5, h.f6⟩⟩
          · have s_2 : S 2 = true := hall ⟨2, .data⟩ (by simp) rfl
            obtain rfl := h.f2 s_2
            have s_4 : S 4 = true := hall ⟨4, .data⟩ (by simp) rfl
            obtain rfl := h.f4 s_4
            go_simp
            refine (KK W h.e).mono ?_
            rintro e' w9 ⟨hb9, im9, rfl, he9, hin9⟩
            have h1 := h.grow hb9
            have hsz := h.e.size
            exact hK _ _ ⟨x71, x72, _, x74, _, _, x77, rfl, ⟨h1.e, h1.f0, h1.f1, h1.f2, h1.f3, h1.f4, fun _ => ⟨im9, rfl, he9, inP_of (fun q hq => ⟨⟨Nat.le_trans hsz hq.1, hq.2⟩, fun _ => rfl⟩) _ hin9⟩, h1.f6⟩⟩
          · have s_5 : S 5 = true := hall ⟨5, .data⟩ (by simp) rfl
            obtain ⟨im5, rfl, he5, hin5⟩ := h.f5 s_5
            obtain ⟨il, it, ia, ic, ix⟩ := im5
            dsimp only [Im.val, Im.l, Im.t, Im.sl, Im.a, Im.xs, Im.c]
            go_simp
            have h1 := h.grow ((Below.refl _ W).alloc (Nat.le_refl _) (.cells #[.bool il, .string it, .slice ia ix.length ic] 47))
            exact hK _ _ ⟨x71, x72, x73, x74, x75, _, _, rfl, ⟨h1.e, h1.f0, h1.f1, h1.f2, h1.f3, h1.f4, h1.f5, fun _ => ⟨.mk il it ia ic ix, W.heap.size, rfl, h.e.size, by simp, World.alloc_heap_new W _, he5, inP_of (fun q hq => ⟨⟨hq.1, by rw [World.size_alloc]; exact Nat.lt_succ_of_lt hq.2⟩, fun k => ((Below.refl _ W).alloc (Nat.le_refl _) _).cell (p := ⟨q, k, none⟩) hq.2⟩) _ hin5⟩⟩⟩
        · rintro S aa W hall ⟨x71, x72, x73, x74, x75, x76, x77, rfl, h⟩
          obtain rfl := h.f0 (hall 0 (by decide))
          obtain rfl := h.f1 (hall 1 (by decide))
          obtain rfl := h.f2 (hall 2 (by decide))
          obtain rfl := h.f3 (hall 3 (by decide))
          obtain rfl := h.f4 (hall 4 (by decide))
          obtain ⟨im, gN, rfl, hgN, hhN, hcN, heN, hinN⟩ := h.f6 (hall 6 (by decide))
          have BWD := h.e
          clear h hall
          simp only [List.drop_succ_cons, List.drop_zero]
          obtain ⟨hF3, m1, m2, m3⟩ := HV.out
          have hF9 := hF3.below (by omega) BWD
          have m2' := owns_below2 m2 BWD
          have hs9 := BWD.size
          have m3' : ∀ im ∈ ims, inP (fun q => bX < q ∧ q < W.heap.size ∧ some q ≠ x72.ownBlock) W im := fun im him => inP_of (fun q hq => ⟨⟨hq.1, Nat.lt_of_lt_of_le hq.2.1 BWD.size, hq.2.2⟩, fun j => BWD.cell (p := ⟨q, j, none⟩) hq.2.1⟩) im (m3 im him)
          have hob2 : ∀ q, x72.ownBlock = some q → q < w3.heap.size := fun q e => (m2.lt q e).2
          have him : inP (fun q => bX < q ∧ q < W.heap.size ∧ some q ≠ x72.ownBlock) W im := inP_of (fun q hq => ⟨⟨by have := hq.1; omega, hq.2, fun e => by have := hob2 q e.symm; have := hq.1; omega⟩, fun _ => rfl⟩) im hinN
          have HW : Hid (_ ∧ _ ∧ _ ∧ _ ∧ _ ∧ _ ∧ _) := ⟨hF9, m2', m1, m3', him, heN, hcN⟩
          have hbxW : bX < W.heap.size := by omega
          clear hF9 m2' m1 m3' him heN hcN hF3 m2 m3 hinN HV BWD KK
          obtain ⟨il, it, ia, ic, ix⟩ := im
          go_wp2_with (at_builtin; refine wpList_append_where _ rfl _ _ 45 rfl (bX + 1) 47 i0 _ 3 48 Tryz.underlying45 hi0 hz0 hz1 hz2 rfl (by decide) _ k _ rfl HW.out.2.1 ⟨gN, 0, none⟩ 1 1 [.bool il, .string it, .slice ia ix.length ic] rfl rfl ?c1 ?c2 (by unfold maxLen; omega) (by omega) ?c3 (by decide) ?_)
          case c1 =>
            intro j u hj
            rw [Addr.add_lit, Lib.cell_of_heap HW.out.2.2.2.2.2.2, Nat.zero_add]
            have hj2 : [Value.bool (Im.mk il it ia ic ix).l, Value.string (Im.mk il it ia ic ix).t, (Im.mk il it ia ic ix).sl][j]? = some u := hj
            simpa using hj2
          case c2 =>
            intro u hu
            simp only [List.mem_cons, List.not_mem_nil, or_false] at hu
            rcases hu with rfl | rfl | rfl <;> rfl
          case c3 => omega
          intro v' w6 a2 a3 a4 a5
          obtain ⟨gg, cc, rfl⟩ : ∃ g c, v' = .slice (some ⟨g, 0, none⟩) (k + 1) c := by
            rcases a2.2 with ⟨h, _⟩ | ⟨g, c, _, h, _⟩
            · exact absurd h a4
            · exact ⟨g, c, h⟩
          obtain ⟨hF9, m2', m1, m3', him, heN, hcN⟩ := HW.out
          have hF6 : FkS z bX w (k + 1) (.slice (some ⟨gg, 0, none⟩) (k + 1) cc) ((List.range (k + 1)).map VL) (w6.setCell ⟨bX, 2, none⟩ (.slice (some ⟨gg, 0, none⟩) (k + 1) cc)) := by
            rw [List.range_succ, List.map_append, List.map_singleton, hval]
            exact fk_more (im := .mk il it ia ic ix) hF9.b hF9.r hF9.x m1 m3' him heN hlt1 a2 a3 hob a5
          have hne6 : some bX ≠ x72.ownBlock := fun e => by have := hob bX e.symm; omega
          have hx6 : XB bX x72 w6 := (a3.block bX (by omega) hne6).trans hF9.x
          have c6 : w6.cell? ⟨bX, 2, none⟩ = some x72 := by rw [Lib.cell_of_heap hx6]; rfl
          have g6 := Lib.frozen_of_heap hx6 2
          have hs6 := a3.size
          have HF6 : Hid _ := hF6
          clear a2 a3 a4 a5 hF9 m2' m1 m3' him heN hcN HW hF6 hx6 c2 g2
          go_wp2
          go_roundg (gk - 1)
          case measure => omega
          case rel => exact ⟨k + 1, _, by omega, by first | rfl | (congr 1; omega), by simp [World.setCell]; omega, HF6.out⟩
    · have hk2 : k = 16 := by omega
      subst hk2
      have l3 : ¬ ((16 : Nat) : Int) < 16 := by decide
      have KE1 := fun W (hbW : Below wr.heap.size wr W) => KE a c n W (by have := hbW.size; omega) (slP_below (((hF.out.b.mono hn)).trans (hbW.mono (by omega))) HP.out)
      rw [HN.out] at KE1
      obtain ⟨ims, m1, m2, m3⟩ := hF.out.i
      have hob : ∀ q, v.ownBlock = some q → bX < q := fun q e => by have := (m2.lt q e).1; omega
      have hFx : XB bX v wr := hF.out.x
      obtain ⟨vl, hvl⟩ : ∃ vl, enV d ps = vl := ⟨_, rfl⟩
      have HVL2 : Hid _ := hvl
      rw [hvl] at KE1
      have HV : Hid (_ ∧ _ ∧ _) := ⟨m1, m2, m3⟩
      clear m1 m2 m3 hvl
      go_wp2_with fail
      refine region_inv_tail 7 (fun S aa W => ∃ x80 x81 x82 x83 x84 x85 x86 : Value, aa = { tmps := #[Value.slice a N c, Value.int IntKind.i64 (d : Int), undef, undef, Value.pointer (some ⟨w.heap.size, 0, none⟩), Value.int IntKind.i64 0, undef, Value.pointer (some ⟨bX, 0, none⟩), Value.int IntKind.i64 16, u9, Value.slice a N c, Value.int IntKind.i64 (N : Int), Value.bool false, undef, undef, undef, undef, undef, undef, undef, undef, undef, undef, undef, undef, undef, undef, undef, Value.slice a N c, Value.int IntKind.i64 (d : Int), Value.int IntKind.i64 0, Value.int IntKind.i64 0, Value.bool false, undef, undef, undef, undef, undef, undef, undef, undef, undef, undef, undef, undef, undef, undef, undef, undef, undef, undef, undef, Value.agg #[Value.bool true, Value.string ⟨#[]⟩, Value.slice none 0 0], Value.int IntKind.i64 16, Value.bool false, u55, u56, u57, u58, u59, u60, u61, u62, u63, u64, u65, u66, u67, u68, u69, u70, u71, u72, u73, u74, u75, u76, u77, u78, u79, x80, x81, x82, x83, x84, x85, x86, undef, undef, undef], defers := [] } ∧ EvK wr bX d N c a v vl S x80 x81 x82 x83 x84 x85 x86 W) (by kernel_rfl) (by kernel_rfl) ?_ ?_ ?_
      · exact ⟨undef, undef, undef, undef, undef, undef, undef, rfl, ⟨(Below.refl _ wr).drew, nofun, nofun, nofun, nofun, nofun, nofun, nofun⟩⟩
      · intro i o S aa W hin hi hun hJ hall K hK
        obtain ⟨x80, x81, x82, x83, x84, x85, x86, rfl, h⟩ := hJ
        have hlt : i < 7 := hin
        have hcase : i = 0 ∨ i = 1 ∨ i = 2 ∨ i = 3 ∨ i = 4 ∨ i = 5 ∨ i = 6 := by omega
        rcases hcase with rfl | rfl | rfl | rfl | rfl | rfl | rfl
        all_goals (have ho := (Option.some.inj hi).symm; subst ho; clear hi hlt hin)
        · go_simp
          exact hK _ _ ⟨_, x81, x82, x83, x84, x85, x86, rfl, ⟨h.e, fun _ => rfl, h.f1, h.f2, h.f3, h.f4, h.f5, h.f6⟩⟩
        · have s_0 : S 0 = true := hall ⟨0, .data⟩ (by simp) rfl
          obtain rfl := h.f0 s_0
          have cW : W.cell? ⟨bX, 2, none⟩ = some v := by rw [h.e.cell (p := ⟨bX, 2, none⟩) hbx, Lib.cell_of_heap hFx]; rfl
          go_simp
          exact hK _ _ ⟨_, _, x82, x83, x84, x85, x86, rfl, ⟨h.e, h.f0, fun _ => rfl, h.f2, h.f3, h.f4, h.f5, h.f6⟩⟩
        · go_simp
          exact hK _ _ ⟨x80, x81, _, x83, x84, x85, x86, rfl, ⟨h.e, h.f0, h.f1, fun _ => rfl, h.f3, h.f4, h.f5, h.f6⟩⟩
        · go_simp
          exact hK _ _ ⟨x80, x81, x82, _, x84, x85, x86, rfl, ⟨h.e, h.f0, h.f1, h.f2, fun _ => rfl, h.f4, h.f5, h.f6⟩⟩
        · have s_2 : S 2 = true := hall ⟨2, .data⟩ (by simp) rfl
          obtain rfl := h.f2 s_2
          have s_3 : S 3 = true := hall ⟨3, .data⟩ (by simp) rfl
          obtain rfl := h.f3 s_3
          go_simp
          refine (KE1 W h.e).mono ?_
          rintro e' w9 ⟨rfl, hb9⟩
          have h1 := h.grow hb9
          exact hK _ _ ⟨x80, x81, _, _, _, x85, x86, rfl, ⟨h1.e, h1.f0, h1.f1, h1.f2, h1.f3, fun _ => rfl, h1.f5, h1.f6⟩⟩
        · have s_4 : S 4 = true := hall ⟨4, .data⟩ (by simp) rfl
          obtain rfl := h.f4 s_4
          go_simp
          exact hK _ _ ⟨x80, x81, x82, x83, _, _, x86, rfl, ⟨h.e, h.f0, h.f1, h.f2, h.f3, h.f4, fun _ => rfl, h.f6⟩⟩
        · have s_5 : S 5 = true := hall ⟨5, .data⟩ (by simp) rfl
          obtain rfl := h.f5 s_5
          go_simp
          have h1 := h.grow ((Below.refl _ W).alloc (Nat.le_refl _) (.cells #[.bool false, .string vl, .slice none 0 0] 47))
          exact hK _ _ ⟨x80, x81, x82, x83, x84, _, _, rfl, ⟨h1.e, h1.f0, h1.f1, h1.f2, h1.f3, h1.f4, h1.f5, fun _ => ⟨W.heap.size, rfl, h.e.size, by simp, World.alloc_heap_new W _⟩⟩⟩
      · rintro S aa W hall ⟨x80, x81, x82, x83, x84, x85, x86, rfl, h⟩
        obtain rfl := h.f0 (hall 0 (by decide))
        obtain rfl := h.f1 (hall 1 (by decide))
        obtain rfl := h.f2 (hall 2 (by decide))
        obtain rfl := h.f3 (hall 3 (by decide))
        obtain rfl := h.f4 (hall 4 (by decide))
        obtain rfl := h.f5 (hall 5 (by decide))
        obtain ⟨gN, rfl, hgN, hhN, hcN⟩ := h.f6 (hall 6 (by decide))
        have BWD := h.e
        clear h hall
        simp only [List.drop_succ_cons, List.drop_zero]
        obtain ⟨m1, m2, m3⟩ := HV.out
        have hF9 := hF.out.below (by omega) BWD
        have m2' := owns_below2 m2 BWD
        have hs9 := BWD.size
        have m3' : ∀ im ∈ ims, inP (fun q => bX < q ∧ q < W.heap.size ∧ some q ≠ x81.ownBlock) W im := fun im him => inP_of (fun q hq => ⟨⟨hq.1, Nat.lt_of_lt_of_le hq.2.1 BWD.size, hq.2.2⟩, fun j => BWD.cell (p := ⟨q, j, none⟩) hq.2.1⟩) im (m3 im him)
        have HW : Hid (_ ∧ _ ∧ _ ∧ _ ∧ _) := ⟨hF9, m2', m1, m3', hcN⟩
        have hbxW : bX < W.heap.size := by omega
        clear hF9 m2' m1 m3' hcN m2 m3 HV BWD KE1 hF
        go_wp2_with (at_builtin; refine wpList_append_where _ rfl _ _ 45 rfl (bX + 1) 47 i0 _ 3 48 Tryz.underlying45 hi0 hz0 hz1 hz2 rfl (by decide) _ 16 _ rfl HW.out.2.1 ⟨gN, 0, none⟩ 1 1 [.bool false, .string vl, .slice none 0 0] rfl rfl ?c1 ?c2 (by unfold maxLen; omega) (by omega) ?c3 (by decide) ?_)
        case c1 =>
          intro j u hj
          rw [Addr.add_lit, Lib.cell_of_heap HW.out.2.2.2.2, Nat.zero_add]
          simpa using hj
        case c2 =>
          intro u hu
          simp only [List.mem_cons, List.not_mem_nil, or_false] at hu
          rcases hu with rfl | rfl | rfl <;> rfl
        case c3 => omega
        intro v' w6 a2 a3 a4 a5
        obtain ⟨gg, cc, rfl⟩ : ∃ g c, v' = .slice (some ⟨g, 0, none⟩) (16 + 1) c := by
          rcases a2.2 with ⟨h, _⟩ | ⟨g, c, _, h, _⟩
          · exact absurd h a4
          · exact ⟨g, c, h⟩
        obtain ⟨hF9, m2', m1, m3', hcN⟩ := HW.out
        have hF6 : FkS z bX w (16 + 1) (.slice (some ⟨gg, 0, none⟩) (16 + 1) cc) ((List.range 16).map VL ++ [tx vl]) (w6.setCell ⟨bX, 2, none⟩ (.slice (some ⟨gg, 0, none⟩) (16 + 1) cc)) :=
          fk_more (im := txt vl) hF9.b hF9.r hF9.x m1 m3' trivial rfl hlt1 a2 a3 hob a5
        have hne6 : some bX ≠ x81.ownBlock := fun e => by have := hob bX e.symm; omega
        have hx6 : XB bX x81 w6 := (a3.block bX (by omega) hne6).trans hF9.x
        have hnz6 : some z ≠ x81.ownBlock := fun e => by have := hob z e.symm; omega
        have hr6 : ItIn z zeroI w6 := (a3.block z (by omega) hnz6).trans hF9.r
        have c60 : w6.cell? ⟨bX, 0, none⟩ = some (.bool true) := by rw [Lib.cell_of_heap hx6]; rfl
        have c61 : w6.cell? ⟨bX, 1, none⟩ = some (.string ⟨#[]⟩) := by rw [Lib.cell_of_heap hx6]; rfl
        have c6 : w6.cell? ⟨bX, 2, none⟩ = some x81 := by rw [Lib.cell_of_heap hx6]; rfl
        have g6 := Lib.frozen_of_heap hx6 2
        have e0 : w6.cell? ⟨z, 0, none⟩ = some (.bool false) := by rw [Lib.cell_of_heap hr6]; rfl
        have e1 : w6.cell? ⟨z, 1, none⟩ = some (.string ⟨#[]⟩) := by rw [Lib.cell_of_heap hr6]; rfl
        have e2 : w6.cell? ⟨z, 2, none⟩ = some (.slice none 0 0) := by rw [Lib.cell_of_heap hr6]; rfl
        have i0' := Lib.frozen_of_heap hr6 0
        have i1' := Lib.frozen_of_heap hr6 1
        have i2' := Lib.frozen_of_heap hr6 2
        have hs6 := a3.size
        have hzx : z ≠ bX := by omega
        have hxz : bX ≠ z := by omega
        have HF6 : Hid _ := hF6
        clear a2 a3 a4 a5 hF9 m2' m1 m3' hcN HW hF6 hx6 hr6
        rw [HZ.out]
        go_wp2
        have F6 := HF6.out
        have y0 : ((((w6.setCell ⟨bX, 2, none⟩ (.slice (some ⟨gg, 0, none⟩) 17 cc)).setCell ⟨z, 0, none⟩ (.bool true)).setCell ⟨z, 1, none⟩ (.string ⟨#[]⟩)).setCell ⟨z, 2, none⟩ (.slice (some ⟨gg, 0, none⟩) 17 cc)).cell? ⟨z, 0, none⟩ = some (.bool true) := by simp [go_sem, e0]
        have y1 : ((((w6.setCell ⟨bX, 2, none⟩ (.slice (some ⟨gg, 0, none⟩) 17 cc)).setCell ⟨z, 0, none⟩ (.bool true)).setCell ⟨z, 1, none⟩ (.string ⟨#[]⟩)).setCell ⟨z, 2, none⟩ (.slice (some ⟨gg, 0, none⟩) 17 cc)).cell? ⟨z, 1, none⟩ = some (.string ⟨#[]⟩) := by simp [go_sem, e1]
        have y2 : ((((w6.setCell ⟨bX, 2, none⟩ (.slice (some ⟨gg, 0, none⟩) 17 cc)).setCell ⟨z, 0, none⟩ (.bool true)).setCell ⟨z, 1, none⟩ (.string ⟨#[]⟩)).setCell ⟨z, 2, none⟩ (.slice (some ⟨gg, 0, none⟩) 17 cc)).cell? ⟨z, 2, none⟩ = some (.slice (some ⟨gg, 0, none⟩) 17 cc) := by simp [go_sem, e2]
        have hsW : w6.heap.size = (w6.setCell ⟨bX, 2, none⟩ (.slice (some ⟨gg, 0, none⟩) (16 + 1) cc)).heap.size := by simp [World.setCell]
        generalize w6.setCell ⟨bX, 2, none⟩ (.slice (some ⟨gg, 0, none⟩) 17 cc) = W5 at F6 y0 y1 y2 hsW ⊢
        have BZ := below_set (below_set (below_set F6.b z 0 (Nat.le_refl _) (.bool true)) z 1 (Nat.le_refl _) (.string ⟨#[]⟩)) z 2 (Nat.le_refl _) (.slice (some ⟨gg, 0, none⟩) 17 cc)
        have hbz : ∀ k, k ≠ z → (((W5.setCell ⟨z, 0, none⟩ (.bool true)).setCell ⟨z, 1, none⟩ (.string ⟨#[]⟩)).setCell ⟨z, 2, none⟩ (.slice (some ⟨gg, 0, none⟩) 17 cc)).heap[k]? = W5.heap[k]? := fun k hk => box_set W5 z _ _ _ k hk
        have hsY : (((W5.setCell ⟨z, 0, none⟩ (.bool true)).setCell ⟨z, 1, none⟩ (.string ⟨#[]⟩)).setCell ⟨z, 2, none⟩ (.slice (some ⟨gg, 0, none⟩) 17 cc)).heap.size = W5.heap.size := by simp [World.setCell]
        generalize ((W5.setCell ⟨z, 0, none⟩ (.bool true)).setCell ⟨z, 1, none⟩ (.string ⟨#[]⟩)).setCell ⟨z, 2, none⟩ (.slice (some ⟨gg, 0, none⟩) 17 cc) = Y at BZ hbz hsY y0 y1 y2 ⊢
        obtain ⟨ims2, o1, o2, o3⟩ := F6.i
        have hgg := o2.lt gg rfl
        have hlen : ims2.length = 17 := by
          have := o2.1
          rw [iC_len] at this
          omega
        have hrow := rowP_owns (p := fun q => bX < q ∧ q < W5.heap.size) o2 ⟨by omega, hgg.2⟩ (fun im him => inP_of (fun q hq => ⟨⟨hq.1, hq.2.1⟩, fun _ => rfl⟩) im (o3 im him))
        refine bodyPost_ret (v := .agg #[.bool true, .string ⟨#[]⟩, .slice (some ⟨gg, 0, none⟩) 17 cc]) (by simp [results, Tryz.results45, go_sem, y0, y1, y2]) rfl ?_
        refine ⟨by rw [HZ.out]; exact BZ, .mk true ⟨#[]⟩ (some ⟨gg, 0, none⟩) cc ims2, ?_, ?_, ?_⟩
        · show _ = Ending.returned (.agg #[.bool true, .string ⟨#[]⟩, .slice (some ⟨gg, 0, none⟩) ims2.length cc])
          rw [hlen]
        · show It.mk true ⟨#[]⟩ (ers ims2) = NF
          rw [o1, HNO.out, HVL2.out]
        · exact rowP_of (fun q hq => ⟨⟨by rw [HZ.out]; omega, by rw [hsY]; exact hq.2⟩, fun k => World.cell?_of_block (hbz q (by omega))⟩) _ 0 ims2 hrow
end Go.Proofs.YtbpcciifaekffaaGreatDoor
namespace Go.Proofs.YtbpcciifaekffaaGreatDoor
open Go.RowKit Go.Shelf Go.Sort

theorem no_all : ∀ f : Nat, NoC f
  | 0 => fun ps d hf hr hok => by
    have h0 := hok.pos
    have h1 := hok.sz 0 ((ents (srt ps))[0]'(by omega)) (List.getElem?_eq_getElem (by omega))
    omega
  | f + 1 => fun ps d hf hr hok a c n w hn hp => by
    have hRC : ReC f := reference_of (no_all f) (bytes_of (no_all f))
    match ps, hr, hok, hp with
    | [], _, hok, _ => exact absurd hok.pos (by rw [ents_len, (srt_perm []).length_eq]; decide)
    | [p0], hr, hok, hp =>
      have hd : d ≤ (ofOf p0.1).size := ((Ok_iff d _).1 hok).2.2.1 (enP p0) (mem_ents.2 ⟨p0, by simp, rfl⟩) |>.1
      exact node_leaf f p0 d hr hd a c n w hn hp
    | p0 :: p1 :: r, hr, hok, hp =>
      by_cases ha : alkV d (enP p0) ((p1 :: r).map enP) = 0
      · exact node_fork f hRC p0 (p1 :: r) (by simp) d hf hr hok ha a c n w hn hp
      · exact node_bridge f hRC p0 (p1 :: r) (by simp) d hf hr hok _ rfl ha a c n w hn hp
theorem re_all (f : Nat) : ReC f := reference_of (no_all f) (bytes_of (no_all f))
theorem by_all (f : Nat) : ByC f := bytes_of (no_all f)
theorem ok_top {ps : List Pr} (hr : RightP ps) (h0 : ps.length ≠ 0) : Ok 0 (ents (srt ps)) :=
  ok_ents (srt ps) (by rw [(srt_perm ps).length_eq]; omega) ((right_perm (srt_perm ps)).2 hr) (srt_sorted ps)
theorem no_top (ps : List Pr) : noF 129 0 ps = (topN (srt ps)).x := rfl

set_option maxRecDepth 20000 in
set_option maxHeartbeats 1000000 in
theorem rroot_one {b : Bool} {es : List Pr} (hb0 : b = true ↔ RightP es) (a : Option Addr) (c n : Nat) (w : World) (hn : n ≤ w.heap.size) (hs : slP n w a es) :
    Calls Tryz.prog 12 #[.slice a es.length c] w fun e w' => e = .returned (.tuple #[.string (rtS b es), .int .i64 (erS b)]) ∧ Below w.heap.size w w' := by
  have K1 := rright6_any es a c n w hn hs
  cases b with
  | false =>
    have hnr : ¬ RightP es := fun h => Bool.noConfusion (hb0.2 h)
    have e1 : rtS false es = ⟨#[]⟩ := rfl
    have e2 : erS false = 60 := rfl
    rw [e1, e2]
    obtain ⟨N, hN⟩ : ∃ N, es.length = N := ⟨_, rfl⟩
    rw [hN] at K1 ⊢
    go_enter Tryz.func12, Tryz.ntmps12
    go_wp2_with fail
    refine K1.mono ?_
    rintro e w1 ⟨⟨q, rfl, h1⟩, B1⟩
    obtain rfl : q = false := by
      cases q with
      | false => rfl
      | true => exact absurd (h1.1 rfl) hnr
    clear h1 K1
    go_wp2
    exact bodyPost_ret (v := .tuple #[.string ⟨#[]⟩, .int .i64 60]) (by simp [results, Tryz.results12, go_sem]) rfl ⟨rfl, B1⟩
  | true =>
    have hr : RightP es := hb0.1 rfl
    have e2 : erS true = 0 := rfl
    rw [e2]
    have hrt : rtS true es = sumOf (topB (srt es)) := rfl
    rw [hrt]
    have hlen : (srt es).length = es.length := (srt_perm es).length_eq
    by_cases h0 : es.length = 0
    · have ht : topB (srt es) = ⟨#[128]⟩ := by unfold topB; rw [if_pos (by omega)]
      rw [ht]
      have KM := fun w => rsum_any ⟨#[128]⟩ (by decide) w
      rw [rsum_is] at KM
      obtain ⟨s, hs'⟩ : ∃ s, sumOf ⟨#[128]⟩ = s := ⟨_, rfl⟩
      rw [hs'] at KM ⊢
      rw [h0] at K1 ⊢
      have HR : Hid (RightP es) := hr
      clear hs' ht hlen hrt h0 hs hb0 e2 hr
      go_enter Tryz.func12, Tryz.ntmps12
      go_wp2_with fail
      refine K1.mono ?_
      rintro e w1 ⟨⟨q, rfl, h1⟩, B1⟩
      obtain rfl : q = true := h1.2 HR.out
      clear h1 K1
      go_wp2_with fail
      refine (KM _).mono ?_
      rintro e w2 ⟨rfl, B2⟩
      have BW := belowStep B1 B1.size B2
      clear KM
      go_wp2
      exact bodyPost_ret (v := .tuple #[.string s, .int .i64 0]) (by simp [results, Tryz.results12, go_sem]) rfl ⟨rfl, BW⟩
    · have KB := fun w hn hs => by_all 129 es 0 (by omega) hr (ok_top hr h0) a c n w hn hs
      have ht : topB (srt es) = eS (noF 129 0 es) := by unfold topB; rw [if_neg (by omega), no_top]
      rw [ht]
      have hsz := eS_size (noF 129 0 es)
      obtain ⟨t, ht2⟩ : ∃ t, eS (noF 129 0 es) = t := ⟨_, rfl⟩
      rw [ht2] at KB hsz ⊢
      have KM := fun w => rsum_any t (by omega) w
      rw [rsum_is] at KM
      obtain ⟨s, hs'⟩ : ∃ s, sumOf t = s := ⟨_, rfl⟩
      rw [hs'] at KM ⊢
      obtain ⟨N, hN⟩ : ∃ N, es.length = N := ⟨_, rfl⟩
      rw [hN] at K1 KB h0 ⊢
      have l0 : ((N : Int) == 0) = false := by rw [beq_eq_false_iff_ne]; omega
      have HS : Hid _ := hs
      have HR : Hid (RightP es) := hr
      clear hs' ht ht2 hs hlen hrt hN hb0 e2 hr
      go_enter Tryz.func12, Tryz.ntmps12
      go_wp2_with fail
      refine K1.mono ?_
      rintro e w1 ⟨⟨q, rfl, h1⟩, B1⟩
      obtain rfl : q = true := h1.2 HR.out
      have K2 := KB w1 (Nat.le_trans hn B1.size) (slP_below (B1.mono hn) HS.out)
      clear h1 K1 KB
      go_wp2_with fail
      refine K2.mono ?_
      rintro e w2 ⟨rfl, B2⟩
      have B12 := belowStep B1 B1.size B2
      clear K2
      go_wp2_with fail
      refine (KM _).mono ?_
      rintro e w3 ⟨rfl, B3⟩
      have BW := belowStep B12 B12.size B3
      clear KM
      go_wp2
      exact bodyPost_ret (v := .tuple #[.string s, .int .i64 0]) (by simp [results, Tryz.results12, go_sem]) rfl ⟨rfl, BW⟩

set_option maxRecDepth 20000 in
set_option maxHeartbeats 2000000 in
theorem troots_any (es : List Pr) (a : Option Addr) (c : Nat) (w : World) (hl : Laid w) (hp : slP w.heap.size w a es) :
    Calls Tryz.prog 3 #[.slice a es.length c] w fun e w' => e = .returned (.bool true) ∧ Below w.heap.size w w' := by
  go_enter Tryz.func3, Tryz.ntmps3
  go_wp2_with fail
  refine (shown6_any w hl).mono ?_
  rintro e w1 ⟨rfl, B1⟩
  have hl1 := hl.below B1
  have K1 := some_any es a c w1 (slP_up (slP_below B1 hp) B1.size)
  clear hp
  go_wp2_with fail
  refine K1.mono ?_
  rintro e w2 ⟨B2, a2, c2, rfl, hp2⟩
  have B12 := belowStep B1 B1.size B2
  have hl2 := hl1.below B2
  obtain ⟨Ls, hL⟩ : ∃ Ls, smE es = Ls := ⟨_, rfl⟩
  rw [hL] at hp2 ⊢
  clear hL K1 B1 B2
  obtain ⟨q, hq⟩ := right_bool Ls
  have KR := root_one hq (List.Perm.refl Ls) a2 c2 w2.heap.size w2 hl2 (Nat.le_refl _) hp2
  have KR' := fun W hn hs => rroot_one hq a2 c2 w2.heap.size W hn hs
  have K3 : ∀ (W : World) (_ : w2.heap.size ≤ W.heap.size) (_ : slP w2.heap.size W a2 Ls), Calls Tryz.prog 13 #[.slice a2 Ls.length c2] W fun r w' => r = .returned (.bool q) ∧ Below W.heap.size W w' := fun W hn hs =>
    (right_any6 Ls a2 c2 w2.heap.size W hn hs).mono fun r w' ⟨⟨b, h1, h2⟩, hb⟩ => ⟨by rw [h1]; congr 2; cases b <;> cases q <;> simp_all, hb⟩
  have K4 : ∀ (W : World) (_ : w2.heap.size ≤ W.heap.size) (_ : slP w2.heap.size W a2 Ls), Calls Tryz.prog 14 #[.slice a2 Ls.length c2] W fun r w' => r = .returned (.bool q) ∧ Below W.heap.size W w' := fun W hn hs =>
    (rright6_any Ls a2 c2 w2.heap.size W hn hs).mono fun r w' ⟨⟨b, h1, h2⟩, hb⟩ => ⟨by rw [h1]; congr 2; cases b <;> cases q <;> simp_all, hb⟩
  obtain ⟨n, hn⟩ : ∃ n, Ls.length = n := ⟨_, rfl⟩
  obtain ⟨s, hs⟩ : ∃ s, rtS q Ls = s := ⟨_, rfl⟩
  obtain ⟨x, hx⟩ : ∃ x, erS q = x := ⟨_, rfl⟩
  rw [hs, hx] at KR KR'
  rw [hn] at KR KR' K3 K4 ⊢
  have HP2 : Hid _ := hp2
  clear hp2 hx hs hq
  go_wp2_with fail
  refine KR.mono ?_
  rintro e w3 ⟨rfl, B3⟩
  have B13 := belowStep B12 B12.size B3
  have hs23 := B3.size
  clear KR
  go_wp2_with fail
  refine (KR' w3 hs23 (slP_below B3 HP2.out)).mono ?_
  rintro e w4 ⟨rfl, B4⟩
  have B14 := belowStep B13 B13.size B4
  have B24 := belowStep B3 hs23 B4
  have hs34 := B4.size
  clear KR'
  go_wp2_with fail
  refine (K3 w4 (by omega) (slP_below B24 HP2.out)).mono ?_
  rintro e w5 ⟨rfl, B5⟩
  have B15 := belowStep B14 B14.size B5
  have B25 := belowStep B24 (by omega) B5
  have hs45 := B5.size
  clear K3
  go_wp2_with fail
  refine (K4 w5 (by omega) (slP_below B25 HP2.out)).mono ?_
  rintro e w6 ⟨rfl, B6⟩
  have BW := belowStep B15 B15.size B6
  clear K4
  go_wp2
  go_ret
  exact ⟨by simp, BW⟩
end Go.Proofs.YtbpcciifaekffaaGreatDoor
namespace Go.Proofs.YtbpcciifaekffaaGreatDoor
open Go.RowKit Go.Shelf Go.Sort

/-- What is told of a node, from the reference's view: all of the top, of the others those of 32 bytes or more. -/
def tdX (d : Nat) (x : It) : List ByteArray := if d = 0 ∨ 32 ≤ (eS x).size then [eS x] else []
/-- A row of texts is answered, which grew out of one. -/
def GrR (zz : Nat) (v : Value) (ts : List ByteArray) (W : World) (e : Ending) (W' : World) : Prop := ∃ v', e = .returned v' ∧ W'.ownsRow zz 9 1 v' ts.length (ts.map .string) ∧ W.grownBy W' v.ownBlock ∧ (v'.ownBlock = v.ownBlock ∨ ∃ g, v'.ownBlock = some g ∧ W.heap.size ≤ g)
theorem grown_below {W W' : World} {row : Option Nat} (hb : Below W.heap.size W W') : W.grownBy W' row := ⟨hb.os, hb.tape, hb.output, hb.size, fun k hk _ => hb.block k hk⟩
theorem grown_step {W W1 W2 : World} {row row2 : Option Nat} (h1 : W.grownBy W1 row) (h2 : W1.grownBy W2 row2) (hr : row2 = row ∨ ∃ g, row2 = some g ∧ W.heap.size ≤ g) : W.grownBy W2 row :=
  ⟨h2.os.trans h1.os, h2.tape.trans h1.tape, h2.output.trans h1.output, Nat.le_trans h1.size h2.size, fun k hk hne => (h2.block k (Nat.lt_of_lt_of_le hk h1.size) (by
    rcases hr with e | ⟨g, e, hg⟩
    · rw [e]; exact hne
    · rw [e]
      intro e2
      injection e2 with e2
      omega)).trans (h1.block k hk hne)⟩
set_option maxRecDepth 20000 in
set_option maxHeartbeats 1000000 in
theorem rtold_any (f d : Nat) (ps : List Pr) (hf : 129 ≤ f + d) (hr : RightP ps) (hok : Ok d (ents (srt ps))) (zz : Nat) (v : Value) (ts : List ByteArray) (a : Option Addr) (c n : Nat) (w : World) (hn : n ≤ w.heap.size) (hp : slP n w a ps) (hown : w.ownsRow zz 9 1 v ts.length (ts.map .string)) (hzz : zz ≤ w.heap.size) (hl : ts.length < 900000) :
    Calls Tryz.prog 59 #[v, .slice a ps.length c, .int .i64 d] w (GrR zz v (ts ++ tdX d (noF f d ps)) w) := by
  have KB := by_all f ps d hf hr hok a c n w hn hp
  obtain ⟨i0, hi0, hz0, hz1, hz2⟩ := info_parts info_text
  obtain ⟨t, ht⟩ : ∃ t, eS (noF f d ps) = t := ⟨_, rfl⟩
  have htd : tdX d (noF f d ps) = if d = 0 ∨ 32 ≤ t.size then [t] else [] := by unfold tdX; rw [ht]
  rw [htd]
  rw [ht] at KB
  obtain ⟨N, hN⟩ : ∃ N, ps.length = N := ⟨_, rfl⟩
  rw [hN] at KB ⊢
  obtain ⟨ao, c0, rfl⟩ : ∃ ao c0, v = .slice ao ts.length c0 := by
    rcases hown.2 with ⟨h, h0⟩ | ⟨g, c, _, h, _⟩
    · exact ⟨none, 0, by rw [h, h0]⟩
    · exact ⟨_, c, h⟩
  have HO : Hid _ := hown
  clear hown htd ht hN hok hr hp
  -- where it is told
  have TOLD : ∀ (w1 : World), Below w.heap.size w w1 → ∀ (v' : Value) (w6 : World), w6.ownsRow zz 9 1 v' (ts.length + 1) (ts.map .string ++ [.string t]) → (w1.alloc (.cells #[.string t] 9)).grownBy w6 (Value.slice ao ts.length c0).ownBlock → (v'.ownBlock = (Value.slice ao ts.length c0).ownBlock ∨ ∃ g, v'.ownBlock = some g ∧ (w1.alloc (.cells #[.string t] 9)).heap.size ≤ g) → GrR zz (.slice ao ts.length c0) (ts ++ [t]) w (.returned v') w6 := by
    intro w1 B1 v' w6 a2 a3 a5
    have A1 := be_new w1 (.cells #[.string t] 9)
    have B2 := belowStep B1 B1.size A1
    refine ⟨v', rfl, ?_, grown_step (grown_below B2) a3 (.inl rfl), ?_⟩
    · rw [List.length_append, List.map_append]
      exact a2
    · rcases a5 with e | ⟨g, e, hg⟩
      · exact .inl e
      · exact .inr ⟨g, e, Nat.le_trans B2.size hg⟩
  have HT : Hid _ := TOLD
  clear TOLD
  obtain ⟨F, hF⟩ : ∃ F, (if d = 0 ∨ 32 ≤ t.size then [t] else []) = F := ⟨_, rfl⟩
  rw [hF]
  go_enter Tryz.func59, Tryz.ntmps59
  go_wp2_with fail
  refine KB.mono ?_
  rintro e w1 ⟨rfl, B1⟩
  have A1 := be_new w1 (.cells #[.string t] 9)
  have hnew := World.alloc_heap_new w1 (.cells #[.string t] 9)
  have hown2 := owns_below2 (owns_below2 HO.out B1) A1
  have hsz1 := B1.size
  have hsz2 := A1.size
  have HV : Hid (_ ∧ _ ∧ _) := ⟨hown2, hnew, B1⟩
  clear KB A1 hnew hown2
  by_cases h0 : d = 0
  · subst h0
    obtain rfl : [t] = F := by rw [← hF, if_pos (.inl rfl)]
    clear B1 hF
    go_wp2_with (at_builtin; refine wpList_append_where _ rfl _ _ 29 rfl zz 9 i0 _ 1 16 Tryz.underlying29 hi0 hz0 hz1 hz2 rfl (by decide) _ ts.length (ts.map .string) rfl HV.out.1 ⟨w1.heap.size, 0, none⟩ 1 1 [.string t] rfl rfl ?c1 ?c2 (by unfold maxLen; omega) (by omega) ?c3 (by decide) ?_)
    case c1 =>
      intro j u hj
      rw [Addr.add_lit, Lib.cell_of_heap HV.out.2.1, Nat.zero_add]
      simpa using hj
    case c2 =>
      intro u hu
      simp only [List.mem_cons, List.not_mem_nil, or_false] at hu
      rw [hu]
      rfl
    case c3 => omega
    intro v' w6 a2 a3 a4 a5
    have HW : Hid (_ ∧ _ ∧ _) := ⟨a2, a3, a5⟩
    clear a2 a3 a4 a5
    go_wp2
    go_ret
    exact HT.out w1 HV.out.2.2 v' w6 HW.out.1 HW.out.2.1 (by rw [World.size_alloc]; exact HW.out.2.2)
  · have l0 : ((d : Int) == 0) = false := by rw [beq_eq_false_iff_ne]; omega
    by_cases h32 : 32 ≤ t.size
    · obtain rfl : [t] = F := by rw [← hF, if_pos (.inr h32)]
      clear hF
      have l3 : (32 : Int) ≤ t.size := by omega
      clear B1
      go_wp2_with (at_builtin; refine wpList_append_where _ rfl _ _ 29 rfl zz 9 i0 _ 1 16 Tryz.underlying29 hi0 hz0 hz1 hz2 rfl (by decide) _ ts.length (ts.map .string) rfl HV.out.1 ⟨w1.heap.size, 0, none⟩ 1 1 [.string t] rfl rfl ?c1 ?c2 (by unfold maxLen; omega) (by omega) ?c3 (by decide) ?_)
      case c1 =>
        intro j u hj
        rw [Addr.add_lit, Lib.cell_of_heap HV.out.2.1, Nat.zero_add]
        simpa using hj
      case c2 =>
        intro u hu
        simp only [List.mem_cons, List.not_mem_nil, or_false] at hu
        rw [hu]
        rfl
      case c3 => omega
      intro v' w6 a2 a3 a4 a5
      have HW : Hid (_ ∧ _ ∧ _) := ⟨a2, a3, a5⟩
      clear a2 a3 a4 a5
      go_wp2
      go_ret
      exact HT.out w1 HV.out.2.2 v' w6 HW.out.1 HW.out.2.1 (by rw [World.size_alloc]; exact HW.out.2.2)
    · obtain rfl : [] = F := by rw [← hF, if_neg (by omega)]
      clear hF
      have l3 : ¬ (32 : Int) ≤ t.size := by omega
      go_wp2
      go_ret
      refine ⟨_, rfl, ?_, grown_below B1, .inl rfl⟩
      rw [List.append_nil]
      exact owns_below2 HO.out B1
end Go.Proofs.YtbpcciifaekffaaGreatDoor
