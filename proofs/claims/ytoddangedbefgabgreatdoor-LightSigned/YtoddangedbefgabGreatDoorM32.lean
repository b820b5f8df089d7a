/- Lemmas: The roots of committees. Whether a Light holds. The reference's roots of headers, and of what a block did. -/
import Derived.Test.YtoddangedbefgabGreatDoorM31
set_option maxRecDepth 100000
set_option maxHeartbeats 4000000
namespace Go.Proofs.YtoddangedbefgabGreatDoor
open Go.RowKit Go.Shelf Go.Sort
def fiveB (xs : List ByteArray) : Bool := xs.all fun x => decide (x.size = 5)
theorem five_false {xs : List ByteArray} {k : Nat} {x : ByteArray} (hx : xs[k]? = some x) (h : x.size ≠ 5) : fiveB xs = false := List.all_eq_false.2 ⟨x, List.mem_of_getElem? hx, by simp [h]⟩
theorem jgh (xs : List ByteArray) (a : Option Addr) (c n : Nat) (hlen : xs.length < 1000000000000000) (w : World) (hn : n ≤ w.heap.size) (hp : slS n w a xs) :
  Calls Tryz.prog 77 #[.slice a xs.length c] w fun e w' => e = .returned (.bool (fiveB xs)) ∧ Below w.heap.size w w' := by
 obtain ⟨N, hN⟩ : ∃ N, xs.length = N := ⟨_, rfl⟩
 have HN : Hid (xs.length = N) := hN
 rw [hN] at hlen ⊢
 clear hN
 go_enter Tryz.func77, Tryz.ntmps77
 go_wp2_with fail
 go_loopg [7] N (fun gk i wr => ∃ k : Nat, k + gk = N ∧ i = .int .i64 k ∧ wr = w ∧ ∀ x ∈ xs.take k, x.size = 5)
 case atStart => exact ⟨0, by omega, rfl, rfl, fun x h => by simp at h⟩
 case round =>
  obtain ⟨k, hk, rfl, rfl, h5⟩ := hrel
  by_cases hlt : k < N
  ·have l1 : (k : Int) < N := by omega
   obtain ⟨x, hx⟩ : ∃ x, xs[k]? = some x := ⟨xs[k]'(by have := HN.out; omega), List.getElem?_eq_getElem (by have := HN.out; omega)⟩
   obtain ⟨b, o, rfl, hb, c0⟩ := jci hp k x hx
   have wk : IntKind.i64.wrap ((k : Int) + 1) = ((k + 1 : Nat) : Int) := by rw [IntKind.wrap_i64]; omega
   by_cases hs : x.size = 5
   ·have l5 : (x.size : Int) = 5 := by omega
    have l6 : ((x.size : Int) == 5) = true := by rw [beq_iff_eq]; exact l5
    have HX : Hid (∀ x' ∈ xs.take (k + 1), x'.size = 5) := fun x' hx' => by
     rw [List.take_add_one, hx] at hx'
     rcases List.mem_append.1 hx' with h | h
     ·exact h5 x' h
     ·simp at h; rw [h]; exact hs
    clear h5 hp hx
    go_wp2
    go_roundg (gk - 1)
    case measure => omega
    case rel => exact ⟨k + 1, by omega, by first | rfl | (congr 1; omega), rfl, HX.out⟩
   ·have l5 : ¬ (x.size : Int) = 5 := by omega
    have l6 : ((x.size : Int) == 5) = false := by rw [beq_eq_false_iff_ne]; exact l5
    have HF : Hid _ := five_false hx hs
    clear h5 hp hx
    go_wp2
    go_ret
    exact ⟨by rw [HF.out]; rfl, Below.refl _ _⟩
  ·have hk2 : k = N := by omega
   have l1 : ¬ (k : Int) < N := by omega
   rw [hk2, List.take_of_length_le (by have := HN.out; omega)] at h5
   have HF : Hid (fiveB xs = true) := List.all_eq_true.2 fun x hx => by simp [h5 x hx]
   clear h5 hp
   go_wp2
   go_ret
   exact ⟨by rw [HF.out]; rfl, Below.refl _ _⟩
def ksC (ks : List ByteArray) : List ByteArray := ks.flatMap pk
theorem pk_five {s : ByteArray} (h : s.size = 5) : (pk s).length = 1 := by rw [pk_len, h]
theorem ksC_len : ∀ ks : List ByteArray, (∀ x ∈ ks, x.size = 5) → (ksC ks).length = ks.length
 | [], _ => rfl
 | s :: r, h => by
  show (pk s ++ ksC r).length = r.length + 1
  rw [List.length_append, pk_five (h s List.mem_cons_self), ksC_len r (fun x hx => h x (List.mem_cons_of_mem _ hx)), Nat.add_comm]
theorem ksC_snoc (ks : List ByteArray) (s : ByteArray) : ksC (ks ++ [s]) = ksC ks ++ pk s := by simp [ksC]
theorem ksC_32 (ks : List ByteArray) : ∀ x ∈ ksC ks, x.size = 32 := fun x hx => by
 obtain ⟨s, _, h⟩ := List.mem_flatMap.1 hx
 exact pk_mem s x h
theorem five_mem {ks : List ByteArray} (h : fiveB ks = true) : ∀ x ∈ ks, x.size = 5 := fun x hx => by simpa using List.all_eq_true.1 h x hx
theorem ks_rt {ks : List ByteArray} (hl : ks.length = 16) (h : fiveB ks = true) : rt8 (ksC ks) 4 = true := (jfm _ _).2 ⟨by decide, by decide, by rw [ksC_len ks (five_mem h), hl]; decide, by rw [ksC_len ks (five_mem h), hl]; decide, ksC_32 ks⟩
def cmB (ks : List ByteArray) (s : ByteArray) : Bool := decide (ks.length = 16) && fiveB ks && decide (s.size = 5)
def cmS (ks : List ByteArray) (s : ByteArray) : ByteArray := if cmB ks s = true then jco (lf (lvs (ksC ks)) 4 0 ++ ckN s 0) else ⟨#[]⟩
def cmE (ks : List ByteArray) (s : ByteArray) : Int := if cmB ks s = true then 0 else 130
theorem pk_at0 {s : ByteArray} (h : s.size = 5) : pk s = [ckN s 0] := by
 unfold pk
 rw [h]
 rfl
theorem hcomm_any (ks : List ByteArray) (a : Option Addr) (c : Nat) (s : ByteArray) (n : Nat) (w : World) (hl : Laid w) (hn : n ≤ w.heap.size) (hp : slS n w a ks) :
  Calls Tryz.prog 40 #[.agg #[.slice a ks.length c, .string s]] w fun e w' => e = .returned (.tuple #[.string (cmS ks s), .int .i64 (cmE ks s)]) ∧ Below w.heap.size w w' := by
 have A0 : Below w.heap.size w (w.alloc (.cells #[.slice a ks.length c, .string s] 31)) := (Below.refl _ w).alloc (Nat.le_refl _) _
 have hx : (w.alloc (.cells #[.slice a ks.length c, .string s] 31)).heap[w.heap.size]? = some (.cells #[.slice a ks.length c, .string s] 31 (0, 0)) := World.alloc_heap_new w _
 obtain ⟨w1, hw1⟩ : ∃ W, w.alloc (.cells #[.slice a ks.length c, .string s] 31) = W := ⟨_, rfl⟩
 rw [hw1] at A0 hx
 have KP := fun (h16 : ks.length = 16) (W : World) (hB : Below w.heap.size w W) => jgh ks a c n (by omega) W (Nat.le_trans hn hB.size) (jan (hB.mono hn) hp)
 obtain ⟨z, hz⟩ : ∃ z, w.heap.size = z := ⟨_, rfl⟩
 have HZ : Hid (w.heap.size = z) := hz
 have hzw : z < w1.heap.size := by rw [← hz]; exact (Array.getElem?_eq_some_iff.1 hx).1
 have hl1 := hl.below A0
 obtain ⟨N, hN⟩ : ∃ N, ks.length = N := ⟨_, rfl⟩
 have HN : Hid (ks.length = N) := hN
 rw [hz] at A0 hx KP hn
 rw [hN] at hx KP hw1 ⊢
 have c0 : w1.cell? ⟨z, 0, none⟩ = some (.slice a N c) := by rw [Lib.cell_of_heap hx]; rfl
 have c1 : w1.cell? ⟨z, 1, none⟩ = some (.string s) := by rw [Lib.cell_of_heap hx]; rfl
 by_cases h16 : N = 16
 ·obtain rfl := h16
  replace KP := KP rfl
  obtain ⟨b1, hb1⟩ : ∃ b, fiveB ks = b := ⟨_, rfl⟩
  have HB : Hid (fiveB ks = b1) := hb1
  rw [hb1] at KP
  cases b1 with
  | false =>
   have hcm : cmB ks s = false := by unfold cmB; rw [hb1, Bool.and_false, Bool.false_and]
   have e1 : cmS ks s = ⟨#[]⟩ := by unfold cmS; rw [hcm, if_neg (by decide)]
   have e2 : cmE ks s = 130 := by unfold cmE; rw [hcm, if_neg (by decide)]
   rw [e1, e2]
   clear e1 e2 hcm hb1 hx hN
   go_enter Tryz.func40, Tryz.ntmps40
   go_wp2_with fail
   refine (KP _ A0).mono ?_
   rintro e w2 ⟨rfl, B2⟩
   have BX := jaa A0 (by omega) B2
   clear KP c0 c1 A0 B2
   go_wp2
   go_ret2
   rw [HZ.out]
   exact ⟨rfl, BX⟩
  | true =>
   have hz0 : ∀ W : World, w1.heap.size ≤ W.heap.size → z < W.heap.size := fun W h => by omega
   have KQ : ∀ (g : Nat) (W : World), W.heap[g]? = some (.cells #[.string s] 9 (0, 0)) → Calls Tryz.prog 77 #[.slice (some ⟨g, 0, none⟩) 1 1] W fun e w' => e = .returned (.bool (decide (s.size = 5))) ∧ Below W.heap.size W w' := fun g W hg => by
    have := jgh [s] (some ⟨g, 0, none⟩) 1 (g + 1) (by simp) W (Array.getElem?_eq_some_iff.1 hg).1 (.inr ⟨_, _, rfl, by omega, fun j x hj => by
     rw [Lib.cell_of_heap hg, Nat.zero_add]
     match j, hj with
     | 0, hj => cases hj; rfl
     | j + 1, hj => simp at hj⟩)
    rwa [show fiveB [s] = decide (s.size = 5) by simp [fiveB]] at this
   by_cases h5 : s.size = 5
   ·rw [decide_eq_true h5] at KQ
    have hcm : cmB ks s = true := by unfold cmB; rw [hb1, HN.out, decide_eq_true h5]; rfl
    have e1 : cmS ks s = jco (lf (lvs (ksC ks)) 4 0 ++ ckN s 0) := by unfold cmS; rw [hcm, if_pos rfl]
    have e2 : cmE ks s = 0 := by unfold cmE; rw [hcm, if_pos rfl]
    rw [e1, e2]
    obtain ⟨y, hy⟩ : ∃ y, lf (lvs (ksC ks)) 4 0 = y := ⟨_, rfl⟩
    have HY : Hid (lf (lvs (ksC ks)) 4 0 = y) := hy
    rw [hy]
    obtain ⟨v, hv⟩ : ∃ v, jco (y ++ ckN s 0) = v := ⟨_, rfl⟩
    have HV : Hid (jco (y ++ ckN s 0) = v) := hv
    rw [hv]
    clear e1 e2 hcm hb1 hx hN hy hv
    go_enter Tryz.func40, Tryz.ntmps40
    go_wp2_with fail
    refine (KP _ A0).mono ?_
    rintro e w2 ⟨rfl, B2⟩
    have BX := jaa A0 (by omega) B2
    have d1 := (B2.cell (p := ⟨z, 1, none⟩) hzw).trans c1
    have d0 := (B2.cell (p := ⟨z, 0, none⟩) hzw).trans c0
    have hl2 := hl1.below B2
    have hz2 : z < w2.heap.size := Nat.lt_of_lt_of_le hzw B2.size
    clear KP c0 c1 A0 B2 hl1
    go_wp2_with fail
    have A3 : Below w2.heap.size w2 (w2.alloc (.cells #[.string s] 9)) := (Below.refl _ w2).alloc (Nat.le_refl _) _
    refine (KQ _ _ (World.alloc_heap_new w2 _)).mono ?_
    rintro e w3 ⟨rfl, B3⟩
    have BB := jaa A3 A3.size B3
    replace BX := jaa BX (by omega) BB
    replace d1 := (BB.cell (p := ⟨z, 1, none⟩) hz2).trans d1
    replace d0 := (BB.cell (p := ⟨z, 0, none⟩) hz2).trans d0
    have hl3 := hl2.below BB
    have hz3 : z < w3.heap.size := Nat.lt_of_lt_of_le hz2 BB.size
    clear KQ A3 B3 BB hl2
    go_wp2_with fail
    go_loopg [4, 29] 16 (fun gk v i wr => ∃ k : Nat, k + gk = 16 ∧ i = .int .i64 k ∧ Below w3.heap.size w3 wr ∧ wr.ownsRow w3.heap.size 9 1 v (ksC (ks.take k)).length ((ksC (ks.take k)).map .string))
    case atStart => exact ⟨0, by omega, rfl, Below.refl _ _, World.ownsRow_nil _ _ _ _⟩
    case round =>
     obtain ⟨k, hk, rfl, BW, hown⟩ := hrel
     have hzr := BW.size
     have hks := five_mem HB.out
     have hlk : (ksC (ks.take k)).length = (ks.take k).length := ksC_len _ (fun x hx => hks x (List.mem_of_mem_take hx))
     have hlk2 : (ks.take k).length ≤ 16 := by rw [List.length_take, HN.out]; omega
     by_cases hlt : k < 16
     ·have l1 : (k : Int) < 16 := by omega
      obtain ⟨x, hx⟩ : ∃ x, ks[k]? = some x := ⟨ks[k]'(by have := HN.out; omega), List.getElem?_eq_getElem (by have := HN.out; omega)⟩
      obtain ⟨b, o, rfl, hb, q0⟩ := jci hp k x hx
      have hbz : b < z := by omega
      have q1 := (BW.cell (p := ⟨b, o + k, none⟩) (by show b < _; omega)).trans ((BX.cell (p := ⟨b, o + k, none⟩) hbz).trans q0)
      have wk : IntKind.i64.wrap ((k : Int) + 1) = ((k + 1 : Nat) : Int) := by rw [IntKind.wrap_i64]; omega
      have hx5 : x.size = 5 := hks x (List.mem_of_getElem? hx)
      have KK := pack_any x (by omega) wr
      have HX : Hid (_ ∧ _) := ⟨BW, hown⟩
      have HXK : Hid (ks.take (k + 1) = ks.take k ++ [x]) := by
       show _ = _
       rw [List.take_add_one, hx]
       rfl
      clear hx q0 hp BW hown hks
      go_wp2_with fail
      refine KK.mono ?_
      rintro e w5 ⟨a5, c5, rfl, hc5, hs5, B5⟩
      obtain ⟨BW, hown⟩ := HX.out
      have hzr5 := B5.size
      have hown5 := jax hown B5
      obtain ⟨v7, w7, hrun7, ho7, hg7⟩ := run_append_list w5 27 w3.heap.size u4 (ksC (ks.take k)).length _ hown5 (pk x) a5 1 c5 w5.heap.size (pk_five hx5) hs5 (by omega) (by omega) (by omega)
      rw [pk_five hx5]
      have HR7 : Hid _ := hrun7
      have HO7 : Hid (_ ∧ _ ∧ _ ∧ _) := ⟨ho7, hg7, B5, fun bb hb' => (hown5.lt bb hb').1⟩
      clear KK hs5 hc5 hown5 hrun7 ho7 hg7 B5 BW hown q1
      go_wp2_with (at_builtin; refine jfe (by simp [Region.wanted]) _ _ 27 27 rfl _ _ _ _ rfl rfl HR7.out ?_)
      go_wp2
      go_roundg (gk - 1)
      case measure => omega
      case rel =>
       obtain ⟨ho7, hg7, B5, hr7⟩ := HO7.out
       obtain ⟨BW, hown⟩ := HX.out
       refine ⟨k + 1, by omega, by first | rfl | (congr 1; omega), (jaa BW hzr B5).grown hg7 (by omega) (fun bb hb' => hr7 bb hb'), ?_⟩
       rw [HXK.out, ksC_snoc, List.length_append, pk_five hx5, List.map_append]
       exact ho7
     ·have hk2 : k = 16 := by omega
      have l1 : ¬ (k : Int) < 16 := by omega
      rw [hk2, List.take_of_length_le (by have := HN.out; omega)] at hown
      have hl16 : (ksC ks).length = 16 := by rw [ksC_len _ hks]; exact HN.out
      obtain ⟨a7, c7, rfl, hs7⟩ := slS_owns hown
      have BY := jaa BX (by omega) BW
      have hlr := hl3.below BW
      have KR := jgq (ksC ks) 4 a7 c7 wr.heap.size wr hlr (Nat.le_refl _) hs7
      have hrt : rt8 (ksC ks) ((4 : Nat) : Int) = true := ks_rt HN.out HB.out
      unfold rtS rtE at KR
      rw [if_pos hrt, if_pos hrt, HY.out, hl16] at KR
      rw [hl16]
      have g1 := (BW.cell (p := ⟨z, 1, none⟩) (by show z < _; omega)).trans d1
      clear hown hs7 hrt d0 d1 BW hks
      go_wp2_with fail
      refine KR.mono ?_
      rintro e w4 ⟨rfl, B4⟩
      have g2 := (B4.cell (p := ⟨z, 1, none⟩) (by show z < _; omega)).trans g1
      have BZ := jaa BY (by omega) B4
      have hl4 := hlr.below B4
      have hz4 := B4.size
      have KK := pack_any s (by omega) w4
      rw [pk_at0 h5] at KK
      clear KR g1 B4 BY hlr
      go_wp2_with fail
      refine KK.mono ?_
      rintro e w5 ⟨a5, c5, rfl, hc5, hs5, B5⟩
      obtain ⟨b5, o5, rfl, hb5, q5⟩ := jci hs5 0 (ckN s 0) rfl
      rw [Nat.add_zero] at q5
      have BV := jaa BZ (by omega) B5
      have hl5 := hl4.below B5
      have hz5 := B5.size
      have A6 : Below w5.heap.size w5 (w5.alloc (.cells #[.string y, .string (ckN s 0)] 9)) := (Below.refl _ w5).alloc (Nat.le_refl _) _
      have KS := jfj y (ckN s 0) _ (jdy _ _) (by rw [← HY.out, jgv _ (jfb _ (ksC_32 ks))]; omega) (by rw [ck_size]; omega) w5.heap.size _ (hl5.below A6) (by simp) (by rw [Lib.cell_of_heap (World.alloc_heap_new w5 _)]; rfl) (by rw [Lib.cell_of_heap (World.alloc_heap_new w5 _)]; rfl)
      rw [HV.out] at KS
      have HBV : Hid (_ ∧ _) := ⟨BV, A6⟩
      clear BZ hl4 hl5 BV A6 g2 B5 hs5 KK
      go_wp2_with fail
      refine KS.mono ?_
      rintro e w6 ⟨rfl, B6⟩
      go_wp2
      go_ret2
      obtain ⟨BV, A6⟩ := HBV.out
      rw [HZ.out]
      exact ⟨rfl, jaa BV (by omega) (jaa A6 A6.size B6)⟩
   ·rw [decide_eq_false h5] at KQ
    have hcm : cmB ks s = false := by unfold cmB; rw [decide_eq_false h5, Bool.and_false]
    have e1 : cmS ks s = ⟨#[]⟩ := by unfold cmS; rw [hcm, if_neg (by decide)]
    have e2 : cmE ks s = 130 := by unfold cmE; rw [hcm, if_neg (by decide)]
    rw [e1, e2]
    clear e1 e2 hcm hb1 hx hN
    go_enter Tryz.func40, Tryz.ntmps40
    go_wp2_with fail
    refine (KP _ A0).mono ?_
    rintro e w2 ⟨rfl, B2⟩
    have BX := jaa A0 (by omega) B2
    have d1 := (B2.cell (p := ⟨z, 1, none⟩) hzw).trans c1
    clear KP c0 c1 A0
    go_wp2_with fail
    have A3 : Below w2.heap.size w2 (w2.alloc (.cells #[.string s] 9)) := (Below.refl _ w2).alloc (Nat.le_refl _) _
    refine (KQ _ _ (World.alloc_heap_new w2 _)).mono ?_
    rintro e w3 ⟨rfl, B3⟩
    have BY := jaa BX (by have := B2.size; omega) (jaa A3 A3.size B3)
    clear KQ BX A3 B3 B2 d1
    go_wp2
    go_ret2
    rw [HZ.out]
    exact ⟨rfl, BY⟩
 ·have l16 : ¬ (N : Int) = 16 := by omega
  have l17 : ((N : Int) == 16) = false := by rw [beq_eq_false_iff_ne]; exact l16
  have hcm : cmB ks s = false := by unfold cmB; rw [hN, decide_eq_false h16, Bool.false_and, Bool.false_and]
  have e1 : cmS ks s = ⟨#[]⟩ := by unfold cmS; rw [hcm, if_neg (by decide)]
  have e2 : cmE ks s = 130 := by unfold cmE; rw [hcm, if_neg (by decide)]
  rw [e1, e2]
  have HX : Hid _ := A0
  clear e1 e2 hcm hx KP A0 hN
  go_enter Tryz.func40, Tryz.ntmps40
  go_wp2
  go_ret2
  rw [HZ.out]
  exact ⟨rfl, HX.out⟩
def u_hoB (s u m : Int) (p t b ea ra : ByteArray) (br : List ByteArray) : Bool := rt8 (hdC s u p t b) 3 && rt8 (exC ea ra m) 2 && decide (br.length = 2) && chk (rtS (exC ea ra m) 2) br 2 b
theorem u_holds_any (s u m : Int) (p t b ea ra : ByteArray) (br : List ByteArray) (a : Option Addr) (c n : Nat) (w : World) (hl : Laid w) (hn : n ≤ w.heap.size) (hp : slS n w a br) :
  Calls Tryz.prog 41 #[.agg #[.int .u64 s, .int .u64 u, .string p, .string t, .string b, .string ea, .string ra, .int .u64 m, .slice a br.length c]] w fun e w' => e = .returned (.bool (u_hoB s u m p t b ea ra br)) ∧ Below w.heap.size w w' := by
 have HHO : Hid (u_hoB s u m p t b ea ra br = (rt8 (hdC s u p t b) 3 && rt8 (exC ea ra m) 2 && decide (br.length = 2) && chk (rtS (exC ea ra m) 2) br 2 b)) := rfl
 obtain ⟨ho, hho⟩ : ∃ h, u_hoB s u m p t b ea ra br = h := ⟨_, rfl⟩
 rw [hho] at HHO ⊢
 obtain ⟨N, hN⟩ : ∃ N, br.length = N := ⟨_, rfl⟩
 have HN : Hid (br.length = N) := hN
 rw [hN] at HHO ⊢
 have A0 : Below w.heap.size w (w.alloc (.cells #[.int .u64 s, .int .u64 u, .string p, .string t, .string b, .string ea, .string ra, .int .u64 m, .slice a N c] 29)) := (Below.refl _ w).alloc (Nat.le_refl _) _
 have hx : (w.alloc (.cells #[.int .u64 s, .int .u64 u, .string p, .string t, .string b, .string ea, .string ra, .int .u64 m, .slice a N c] 29)).heap[w.heap.size]? = some (.cells #[.int .u64 s, .int .u64 u, .string p, .string t, .string b, .string ea, .string ra, .int .u64 m, .slice a N c] 29 (0, 0)) := World.alloc_heap_new w _
 obtain ⟨w1, hw1⟩ : ∃ W, w.alloc (.cells #[.int .u64 s, .int .u64 u, .string p, .string t, .string b, .string ea, .string ra, .int .u64 m, .slice a N c] 29) = W := ⟨_, rfl⟩
 rw [hw1] at A0 hx
 obtain ⟨z, hz⟩ : ∃ z, w.heap.size = z := ⟨_, rfl⟩
 have HZ : Hid (w.heap.size = z) := hz
 have hzw : z < w1.heap.size := by rw [← hz]; exact (Array.getElem?_eq_some_iff.1 hx).1
 have hl1 : ∀ W : World, Below w.heap.size w W → Laid W := fun W hB => hl.below hB
 have KH := fun (W : World) (hB : Below w.heap.size w W) => hroot_any s u p t b W (hl1 W hB)
 have KX := fun (W : World) (hB : Below w.heap.size w W) => xroot_any ea ra m W (hl1 W hB)
 have KC := fun (W : World) (hB : Below w.heap.size w W) => check_any (rtS (exC ea ra m) 2) br 2 (by decide) b a c n W (hl1 W hB) (Nat.le_trans hn hB.size) (jan (hB.mono hn) hp)
 rw [hN] at KC
 rw [hz] at A0 hx KH KX KC
 unfold rtE at KH KX
 obtain ⟨v1, hv1⟩ : ∃ v, rtS (hdC s u p t b) 3 = v := ⟨_, rfl⟩
 obtain ⟨v2, hv2⟩ : ∃ v, rtS (exC ea ra m) 2 = v := ⟨_, rfl⟩
 rw [hv1] at KH
 rw [hv2] at KX KC HHO
 obtain ⟨r1, hr1⟩ : ∃ v, rt8 (hdC s u p t b) 3 = v := ⟨_, rfl⟩
 obtain ⟨r2, hr2⟩ : ∃ v, rt8 (exC ea ra m) 2 = v := ⟨_, rfl⟩
 rw [hr1, hr2] at HHO
 rw [show rt8 (hdC s u p t b) ((3 : Nat) : Int) = r1 from hr1] at KH
 rw [show rt8 (exC ea ra m) ((2 : Nat) : Int) = r2 from hr2] at KX
 obtain ⟨x1, hx1⟩ : ∃ v : Int, (if r1 = true then (0 : Int) else 130) = v := ⟨_, rfl⟩
 obtain ⟨x2, hx2⟩ : ∃ v : Int, (if r2 = true then (0 : Int) else 130) = v := ⟨_, rfl⟩
 rw [hx1] at KH
 rw [hx2] at KX
 have HE1 : Hid _ := hx1
 have HE2 : Hid _ := hx2
 obtain ⟨ck, hck⟩ : ∃ v, chk v2 br 2 b = v := ⟨_, rfl⟩
 rw [hck] at KC HHO
 have cs : ∀ W : World, Below w1.heap.size w1 W → ∀ (o : Nat) (v : Value), w1.cell? ⟨z, o, none⟩ = some v → W.cell? ⟨z, o, none⟩ = some v := fun W hB o v h => (hB.cell (p := ⟨z, o, none⟩) hzw).trans h
 have c0 : w1.cell? ⟨z, 0, none⟩ = some (.int .u64 s) := by rw [Lib.cell_of_heap hx]; rfl
 have c1 : w1.cell? ⟨z, 1, none⟩ = some (.int .u64 u) := by rw [Lib.cell_of_heap hx]; rfl
 have c2 : w1.cell? ⟨z, 2, none⟩ = some (.string p) := by rw [Lib.cell_of_heap hx]; rfl
 have c3 : w1.cell? ⟨z, 3, none⟩ = some (.string t) := by rw [Lib.cell_of_heap hx]; rfl
 have c4 : w1.cell? ⟨z, 4, none⟩ = some (.string b) := by rw [Lib.cell_of_heap hx]; rfl
 have c5 : w1.cell? ⟨z, 5, none⟩ = some (.string ea) := by rw [Lib.cell_of_heap hx]; rfl
 have c6 : w1.cell? ⟨z, 6, none⟩ = some (.string ra) := by rw [Lib.cell_of_heap hx]; rfl
 have c7 : w1.cell? ⟨z, 7, none⟩ = some (.int .u64 m) := by rw [Lib.cell_of_heap hx]; rfl
 have c8 : w1.cell? ⟨z, 8, none⟩ = some (.slice a N c) := by rw [Lib.cell_of_heap hx]; rfl
 have HC : Hid (∀ W : World, Below w1.heap.size w1 W → _) := cs
 clear hx hho hN hv1 hv2 hr1 hr2 hck cs hx1 hx2
 go_enter Tryz.func41, Tryz.ntmps41
 go_wp2_with fail
 refine (KH _ A0).mono ?_
 rintro e w2 ⟨rfl, B2⟩
 have BX := jaa A0 (by omega) B2
 have d4 := HC.out w2 B2 _ _ c4
 have d5 := HC.out w2 B2 _ _ c5
 have d6 := HC.out w2 B2 _ _ c6
 have d7 := HC.out w2 B2 _ _ c7
 have d8 := HC.out w2 B2 _ _ c8
 clear KH c0 c1 c2 c3 A0
 go_wp2_with fail
 refine (KX _ BX).mono ?_
 rintro e w3 ⟨rfl, B3⟩
 have BY := jaa BX (by have := B2.size; omega) B3
 have B13 := B2.trans (B3.mono B2.size)
 have e4 := HC.out w3 B13 _ _ c4
 have e8 := HC.out w3 B13 _ _ c8
 have KC3 := KC _ BY
 clear KX d4 d5 d6 d7 d8 c4 c5 c6 c7 c8 B2 B3 BX B13 KC
 cases r1 with
 | false =>
  obtain rfl : (130 : Int) = x1 := HE1.out
  obtain rfl : ho = false := HHO.out
  go_wp2
  go_ret
  rw [HZ.out]
  exact ⟨rfl, BY⟩
 | true =>
  obtain rfl : (0 : Int) = x1 := HE1.out
  cases r2 with
  | false =>
   obtain rfl : (130 : Int) = x2 := HE2.out
   obtain rfl : ho = false := HHO.out
   go_wp2
   go_ret
   rw [HZ.out]
   exact ⟨rfl, BY⟩
  | true =>
   obtain rfl : (0 : Int) = x2 := HE2.out
   by_cases h2 : N = 2
   ·obtain rfl := h2
    obtain rfl : ho = ck := HHO.out
    go_wp2_with fail
    refine KC3.mono ?_
    rintro e w4 ⟨rfl, B4⟩
    have BZ := jaa BY (by rw [← HZ.out]; exact BY.size) B4
    clear KC3 B4 BY
    go_wp2
    go_ret
    rw [HZ.out]
    exact ⟨rfl, BZ⟩
   ·have l2 : ¬ (N : Int) = 2 := by omega
    have l3 : ((N : Int) == 2) = false := by rw [beq_eq_false_iff_ne]; exact l2
    obtain rfl : ho = false := by rw [HHO.out, decide_eq_false h2]; rfl
    clear KC3
    go_wp2
    go_ret
    rw [HZ.out]
    exact ⟨rfl, BY⟩
def rvS (xs : List ByteArray) (d : Nat) : ByteArray := if rt8 xs d = true then lf (lvs xs) d 0 else ⟨#[]⟩
def rvE (xs : List ByteArray) (d : Nat) : Int := if rt8 xs d = true then 0 else 80
theorem rootV_eq (xs : List ByteArray) (d : Nat) : rootV xs d = .tuple #[.string (rvS xs d), .int .i64 (rvE xs d)] := by
 unfold rootV rvS rvE
 rw [Int.toNat_natCast]
 split <;> rfl
theorem slS_cells {W : World} {g : Nat} {xs : List ByteArray} (hg : W.heap[g]? = some (.cells (xs.map Value.string).toArray 9 (0, 0))) : slS (g + 1) W (some ⟨g, 0, none⟩) xs := .inr ⟨_, _, rfl, by omega, fun j x hj => by
 rw [Lib.cell_of_heap hg, Nat.zero_add]
 simp [hj]⟩
theorem chunks_any (s u : Int) (p t b : ByteArray) (w : World) :
  Calls Tryz.prog 38 #[.agg #[.int .u64 s, .int .u64 u, .string p, .string t, .string b]] w fun e w' => ∃ g, e = .returned (.slice (some ⟨g, 0, none⟩) 5 5) ∧ slS (g + 1) w' (some ⟨g, 0, none⟩) (hdC s u p t b) ∧ g < w'.heap.size ∧ Below w.heap.size w w' := by
 have KN := fun w => jed s w
 have KM := fun w => jed u w
 have A0 : Below w.heap.size w (w.alloc (.cells #[.int .u64 s, .int .u64 u, .string p, .string t, .string b] 24)) := (Below.refl _ w).alloc (Nat.le_refl _) _
 have hx : (w.alloc (.cells #[.int .u64 s, .int .u64 u, .string p, .string t, .string b] 24)).heap[w.heap.size]? = some (.cells #[.int .u64 s, .int .u64 u, .string p, .string t, .string b] 24 (0, 0)) := World.alloc_heap_new w _
 obtain ⟨w1, hw1⟩ : ∃ W, w.alloc (.cells #[.int .u64 s, .int .u64 u, .string p, .string t, .string b] 24) = W := ⟨_, rfl⟩
 rw [hw1] at A0 hx
 obtain ⟨z, hz⟩ : ∃ z, w.heap.size = z := ⟨_, rfl⟩
 have HZ : Hid (w.heap.size = z) := hz
 have hzw : z < w1.heap.size := by rw [← hz]; exact (Array.getElem?_eq_some_iff.1 hx).1
 rw [hz] at A0 hx
 have HH : Hid (hdC s u p t b = [jbh s, jbh u, p, t, b]) := rfl
 obtain ⟨n1, hn1⟩ : ∃ x, jbh s = x := ⟨_, rfl⟩
 obtain ⟨n2, hn2⟩ : ∃ x, jbh u = x := ⟨_, rfl⟩
 rw [hn1] at KN HH
 rw [hn2] at KM HH
 have k0 := cell_regrown (show w1.cell? ⟨z, 0, none⟩ = some (.int .u64 s) by rw [Lib.cell_of_heap hx]; rfl)
 have k1 := cell_regrown (show w1.cell? ⟨z, 1, none⟩ = some (.int .u64 u) by rw [Lib.cell_of_heap hx]; rfl)
 have k2 := cell_regrown (show w1.cell? ⟨z, 2, none⟩ = some (.string p) by rw [Lib.cell_of_heap hx]; rfl)
 have k3 := cell_regrown (show w1.cell? ⟨z, 3, none⟩ = some (.string t) by rw [Lib.cell_of_heap hx]; rfl)
 have k4 := cell_regrown (show w1.cell? ⟨z, 4, none⟩ = some (.string b) by rw [Lib.cell_of_heap hx]; rfl)
 have cA := jae (w := w1) KN
 have cB := jae (w := w1) KM
 clear hn1 hn2 KN KM hx
 go_enter Tryz.func38, Tryz.ntmps38
 go_wp2_with fail
 refine jar 12 (by kernel_rfl) (by kernel_rfl) ?_
 simp only [List.take_succ_cons, List.take_zero, List.drop_succ_cons, List.drop_zero]
 iterate 2 (quiet_step (fail))
 quiet_step (exact cA _ _)
 iterate 2 (quiet_step (fail))
 quiet_step (exact cB _ _)
 iterate 6 (quiet_step (fail))
 refine wpQuiet_nil ?_
 intro w8 hw8
 have hb8 : Below w1.heap.size w1 w8 := by
  obtain ⟨p, rfl⟩ := hw8
  exact below_regrown _ _ _
 clear hw8 k0 k1 k2 k3 k4 cA cB
 have hz8 := hb8.size
 have B8 := A0.trans (hb8.mono (by omega))
 have HX : Hid _ := B8
 clear B8 hb8 A0
 go_wp2
 go_ret
 refine ⟨w8.heap.size, rfl, ?_, by simp, ?_⟩
 ·rw [HH.out]
  exact slS_cells (World.alloc_heap_new w8 _)
 ·rw [HZ.out]
  exact HX.out.alloc (by omega) _
theorem rhroot_any (s u : Int) (p t b : ByteArray) (w : World) :
  Calls Tryz.prog 15 #[.agg #[.int .u64 s, .int .u64 u, .string p, .string t, .string b]] w fun e w' => e = .returned (.tuple #[.string (rtS (hdC s u p t b) 3), .int .i64 (rtE (hdC s u p t b) 3)]) ∧ Below w.heap.size w w' := by
 have A0 : Below w.heap.size w (w.alloc (.cells #[.int .u64 s, .int .u64 u, .string p, .string t, .string b] 24)) := (Below.refl _ w).alloc (Nat.le_refl _) _
 have KC := chunks_any s u p t b (w.alloc (.cells #[.int .u64 s, .int .u64 u, .string p, .string t, .string b] 24))
 have hlen : (hdC s u p t b).length = 5 := rfl
 obtain ⟨xs, hxs⟩ : ∃ xs, hdC s u p t b = xs := ⟨_, rfl⟩
 rw [hxs] at KC hlen ⊢
 clear hxs
 obtain ⟨r, hr⟩ : ∃ r, rt8 xs ((3 : Nat) : Int) = r := ⟨_, rfl⟩
 have KR := fun (g n : Nat) (W : World) (hn : n ≤ W.heap.size) (hs : slS n W (some ⟨g, 0, none⟩) xs) => z_rroot_any xs ((3 : Nat) : Int) (some ⟨g, 0, none⟩) 5 n W hn hs
 rw [rootV_eq, hlen] at KR
 unfold rvS rvE at KR
 unfold rtS rtE
 rw [hr] at KR ⊢
 cases r with
 | true =>
  rw [if_pos rfl, if_pos rfl] at KR ⊢
  obtain ⟨y, hy⟩ : ∃ y, lf (lvs xs) 3 0 = y := ⟨_, rfl⟩
  rw [hy] at KR ⊢
  clear hy hr hlen
  go_enter Tryz.func15, Tryz.ntmps15
  go_wp2_with fail
  refine KC.mono ?_
  rintro e w1 ⟨g, rfl, hs, hg, B1⟩
  have B2 := jaa A0 A0.size B1
  clear KC A0 B1
  go_wp2_with fail
  refine (KR g (g + 1) w1 hg hs).mono ?_
  rintro e w3 ⟨rfl, B3⟩
  go_wp2
  go_ret2
  exact ⟨rfl, jaa B2 B2.size B3⟩
 | false =>
  rw [if_neg (by decide), if_neg (by decide)] at KR ⊢
  clear hr hlen
  go_enter Tryz.func15, Tryz.ntmps15
  go_wp2_with fail
  refine KC.mono ?_
  rintro e w1 ⟨g, rfl, hs, hg, B1⟩
  have B2 := jaa A0 A0.size B1
  clear KC A0 B1
  go_wp2_with fail
  refine (KR g (g + 1) w1 hg hs).mono ?_
  rintro e w3 ⟨rfl, B3⟩
  go_wp2
  go_ret2
  exact ⟨rfl, jaa B2 B2.size B3⟩
structure Mv_exec (V : World) (z : Nat) (v2 s : Int) (n0 v1 p t : ByteArray) (S : Nat → Bool) (x4 x5 x6 x7 x8 x9 x10 x11 x12 x13 x14 x15 x16 x17 : Value) (W : World) : Prop where
 e : Below V.heap.size V W
 f0 : S 0 = true → x7 = Value.pointer (some ⟨z, 0, none⟩)
 f1 : S 1 = true → x8 = Value.string p
 f2 : S 2 = true → x9 = Value.pointer (some ⟨z, 1, none⟩)
 f3 : S 3 = true → x10 = Value.string t
 f4 : S 4 = true → x11 = Value.pointer (some ⟨z, 2, none⟩)
 f5 : S 5 = true → x12 = Value.int .u64 s
 f6 : S 6 = true → x13 = Value.string n0
 f7 : S 7 = true → ∃ g, x14 = .slice (some ⟨g, 0, none⟩) 3 3 ∧ V.heap.size ≤ g ∧ g < W.heap.size ∧ W.heap[g]? = some (.cells #[.string p, .string t, .string n0] 9 (0, 0))
 f8 : S 8 = true → x15 = Value.tuple #[.string v1, .int .i64 v2]
 f9 : S 9 = true → x6 = Value.tuple #[.string v1, .int .i64 v2]
 f10 : S 10 = true → x16 = Value.string v1
 f11 : S 11 = true → x17 = Value.int .i64 v2
 f12 : S 12 = true → x4 = Value.string v1
 f13 : S 13 = true → x5 = Value.int .i64 v2
theorem Mv_exec.grow {V : World} {z : Nat} {v2 s : Int} {n0 v1 p t : ByteArray} {S : Nat → Bool} {x4 x5 x6 x7 x8 x9 x10 x11 x12 x13 x14 x15 x16 x17 : Value} {W W' : World} (h : Mv_exec V z v2 s n0 v1 p t S x4 x5 x6 x7 x8 x9 x10 x11 x12 x13 x14 x15 x16 x17 W) (hb : Below W.heap.size W W') : Mv_exec V z v2 s n0 v1 p t S x4 x5 x6 x7 x8 x9 x10 x11 x12 x13 x14 x15 x16 x17 W' :=
 ⟨jaa h.e h.e.size hb, h.f0, h.f1, h.f2, h.f3, h.f4, h.f5, h.f6, fun s => (h.f7 s).imp fun _ ⟨j1, j0, j2, j3⟩ => ⟨j1, j0, Nat.lt_of_lt_of_le j2 hb.size, (hb.block _ j2).trans j3⟩, h.f8, h.f9, h.f10, h.f11, h.f12, h.f13⟩
end Go.Proofs.YtoddangedbefgabGreatDoor
