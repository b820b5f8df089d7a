/- Lemmas: Whether a branch is a leaf's: Check. The reference's Way and Check; the law SszChecks, walked. The law SszSound, walked. The roots of headers, and of what a block did. -/
import Derived.Test.YtoddangedbefgabGreatDoorM30
set_option maxRecDepth 100000
set_option maxHeartbeats 4000000
namespace Go.Proofs.YtoddangedbefgabGreatDoor
open Go.RowKit Go.Shelf Go.Sort
attribute [local go_sem] Oper.semAt_some
def chk (leaf : ByteArray) (xs : List ByteArray) (i : Nat) (root : ByteArray) : Bool := decide (xs.length ≤ 64 ∧ i < 2 ^ xs.length ∧ leaf.size = 32 ∧ root.size = 32 ∧ (∀ x ∈ xs, x.size = 32) ∧ clF i 0 leaf xs = root)
theorem chk_no {leaf : ByteArray} {xs : List ByteArray} {i : Nat} {root : ByteArray} (h : ¬ (xs.length ≤ 64 ∧ i < 2 ^ xs.length ∧ leaf.size = 32 ∧ root.size = 32)) : chk leaf xs i root = false := decide_eq_false fun hh => h ⟨hh.1, hh.2.1, hh.2.2.1, hh.2.2.2.1⟩
def CkJ (leaf : ByteArray) (xs : List ByteArray) (i p : Nat) (w1 : World) (mk : LoopState → Option Code → Loop) (k : Nat) (W : World) : Prop := Rc (p + 3) (mk .ready none) W ∧ Below (p + 1) w1 W ∧ (∀ x ∈ xs.take k, x.size = 32) ∧ W.heap[p + 1]? = some (.cells #[.string (clF i 0 leaf (xs.take k))] 9 (0, 0))
def CkX (xs : List ByteArray) (p : Nat) (w1 : World) (mk : LoopState → Option Code → Loop) (_ : Nat) (W : World) : Prop := (∃ id, Rc (p + 3) (mk .done (some (.exit id))) W ∧ id = 0) ∧ Below (p + 1) w1 W ∧ (∃ x ∈ xs, x.size ≠ 32) ∧ W.heap[p + 1]? = some (.cells #[.string ⟨#[]⟩] 9 (0, 0))
theorem jgj (k : Nat) (h : k < 18446744073709551616) : bits .and .u64 (k : Int) 1 = ((k % 2 : Nat) : Int) := by
 have e : (BitVec.ofInt 64 (k : Int) &&& BitVec.ofInt 64 1).toNat = k % 2 := by
  rw [BitVec.toNat_and]
  have a1 : (BitVec.ofInt 64 (k : Int)).toNat = k := by
   rw [BitVec.toNat_ofInt]; omega
  have a2 : (BitVec.ofInt 64 1).toNat = 1 := by decide
  rw [a1, a2, Nat.and_one_is_mod]
 show IntKind.u64.wrap ((BitVec.ofInt 64 (k : Int) &&& BitVec.ofInt 64 1).toNat : Int) = _
 rw [e, IntKind.wrap_u64]
 omega
theorem check_any (leaf : ByteArray) (xs : List ByteArray) (i : Nat) (hi : i < 18446744073709551616) (root : ByteArray) (a : Option Addr) (c n : Nat) (w : World) (hl : Laid w) (hn : n ≤ w.heap.size) (hp : slS n w a xs) :
  Calls Tryz.prog 82 #[.string leaf, .slice a xs.length c, .int .u64 (i : Int), .string root] w fun e w' => e = .returned (.bool (chk leaf xs i root)) ∧ Below w.heap.size w w' := by
 obtain ⟨N, hN⟩ : ∃ N, xs.length = N := ⟨_, rfl⟩
 rw [hN]
 refine (callsIn_wide (n := 9)).1 ?_
 refine callsIn_of_wp_marks Tryz.func82 rfl trivial ?_ rfl
 refine wpIn_wide.2 ?_
 simp only [Tryz.ntmps82, List.size_toArray, List.length_cons, List.length_nil, Nat.reduceAdd, Nat.reduceSub, Array.replicate_succ, Array.replicate_zero, List.push_toArray, List.append_toArray, List.nil_append, List.cons_append]
 go_wp2_with fail
 refine wp_scope_straight ?_
 obtain ⟨p, hp0⟩ : ∃ p, w.heap.size = p := ⟨_, rfl⟩
 have HP : Hid _ := hp0
 refine wpOf (fun W => Below p w W ∧ W.heap.size = p + 1 ∧ W.heap[p]? = some (.cells #[.int .u64 (i : Int)] 22 (0, 0))) ?_ ?_
 ·have t2 := World.alloc_heap_new w (.cells #[.int .u64 (i : Int)] 22)
  rw [hp0] at t2
  refine ⟨?_, by simp [hp0], t2⟩
  rw [← hp0]
  exact (Below.refl _ w).alloc (Nat.le_refl _) _
 rintro V ⟨BV, hszV, hb0⟩
 rw [hp0]
 have hnp : n ≤ p := by rw [← hp0]; exact hn
 clear hp0
 have k0 : V.cell? ⟨p, 0, none⟩ = some (.int .u64 (i : Int)) := by rw [Lib.cell_of_heap hb0]; rfl
 have HNO : Hid (¬ (N ≤ 64 ∧ i < 2 ^ N ∧ leaf.size = 32 ∧ root.size = 32) → chk leaf xs i root = false) := fun h => chk_no (by rw [hN]; exact h)
 by_cases h64 : 64 < N
 ·have l0 : (64 : Int) < N := by omega
  have hno := HNO.out (by omega)
  have HX : Hid _ := hno
  clear hno
  go_wp2
  refine ⟨.bool false, by simp [results, Tryz.results82, go_sem], by rw [HX.out], ?_⟩
  rw [HP.out]
  exact BV
 ·have l0 : ¬ (64 : Int) < N := by omega
  have hmin : min N 64 = N := by omega
  have l64 : (N : Int) ≤ 64 := by omega
  have KC1 := jef leaf
  have KC2 := jef root
  obtain ⟨q, hq⟩ : ∃ q, i / 2 ^ N = q := ⟨_, rfl⟩
  have hqi : (i : Int) / 2 ^ N = (q : Int) := by rw [← hq]; simp
  by_cases hiq : 0 < q
  ·have hno := HNO.out (fun hh => by rw [Nat.div_eq_of_lt hh.2.1] at hq; omega)
   have HX : Hid _ := hno
   have l1 : ¬ (q : Int) = 0 := by omega
   have l2 : ((q : Int) == 0) = false := by rw [beq_eq_false_iff_ne]; exact l1
   clear hno hq
   go_wp2
   refine ⟨.bool false, by simp [results, Tryz.results82, go_sem], by rw [HX.out], ?_⟩
   rw [HP.out]
   exact BV
  ·obtain rfl : q = 0 := by omega
   have hiN : i < 2 ^ N := by
    rcases Nat.lt_or_ge i (2 ^ N) with h | h
    ·exact h
    ·have := Nat.div_pos h (Nat.two_pow_pos N)
     omega
   have hqi0 : (i : Int) / 2 ^ N = 0 := by rw [hqi]; rfl
   by_cases hlf : leaf.size = 32
   ·rw [decide_eq_true hlf] at KC1
    by_cases hrt : root.size = 32
    ·rw [decide_eq_true hrt] at KC2
     clear hq HNO
     go_wp2_with fail
     refine (KC1 _).mono ?_
     rintro e w1 ⟨rfl, rfl⟩
     go_wp2_with fail
     refine (KC2 _).mono ?_
     rintro e w1 ⟨rfl, rfl⟩
     clear KC1 KC2
     go_wp2_with fail
     refine wp_label ?_
     go_wp2_with fail
     refine (all_any8 a N c _).mono ?_
     rintro e w2 ⟨rfl, hw2⟩
     have hF2 : Below (p + 1) w1 w2 ∧ w2.heap.size = p + 3 ∧ w2.heap[p + 1]? = some (.cells #[.string leaf] 9 (0, 0)) ∧ w2.heap[p + 2]? = some (.cells #[.slice a N c] 27 (0, 0)) := by
      have t2 := jdg w1 (.cells #[.string leaf] 9) (.cells #[.slice a N c] 27)
      rw [← hw2, hszV] at t2
      refine ⟨?_, by rw [hw2]; simp; omega, t2.1, t2.2⟩
      rw [hw2, ← hszV]
      exact ((Below.refl _ w1).alloc (Nat.le_refl _) _).alloc (by simp) _
     obtain ⟨B2, hz2', hb1, hb2⟩ := hF2
     have hsz' : (w1.alloc (.cells #[.string leaf] 9)).heap.size = p + 2 := by simp [hszV]
     rw [hsz']
     have HV : Hid _ := hszV
     have l8 : Laid w1 := hl.below (by rw [HP.out]; exact BV)
     have s8 : slS n w1 a xs := jan (BV.mono hnp) hp
     have h1p : 2 < p := by have := hl.k.z; have := hl.h.z; have := HP.out; omega
     clear hw2 hsz' hszV k0
     go_wp2_with fail
     refine (wpIn_wide (n := 9)).1 ?_
     refine range_to (by omega) (gf := 137) (lb := #[.pointer (some ⟨p + 2, 0, none⟩)]) rfl (enters_of Tryz.func137 (by kernel_rfl) rfl) ?_
     intro fn mk W1 hmk BW1 hszW hRc
     rw [hz2'] at hmk BW1 hszW hRc ⊢
     have cX : W1.cell? ⟨p + 2, 0, none⟩ = some (.slice a xs.length c) := by rw [hN, BW1.cell (p := ⟨p + 2, 0, none⟩) (by show p + 2 < p + 3; omega), Lib.cell_of_heap hb2]; rfl
     have BWp : Below (p + 1) w1 W1 := B2.trans (BW1.mono (by omega))
     have sW1 : slZ (p + 1) (p + 2) (p + 4) (p + 5) W1 a xs := by
      rcases jan (BWp.mono (by omega)) s8 with e | ⟨b, o, k1, k2, k3⟩
      ·exact .inl e
      ·exact .inr ⟨b, o, k1, by omega, by omega, ⟨by omega, by omega⟩, k3⟩
     refine (all1_in 8 (p + 4) (p + 1) (p + 2) (p + 5) (p + 2) xs (by omega) a c (CkJ leaf xs i p w1 mk) (CkX xs p w1 mk) ?hY W1 cX sW1 ⟨hRc, BWp, fun x hx => by simp at hx, by rw [List.take_zero]; exact (BW1.block (p + 1) (by omega)).trans hb1⟩).mono ?_
     case hY =>
      rintro m k x W ⟨hr, hB, h32, hv⟩ hx
      refine yield_to mk hmk hr rfl ?_
      gi_wp2
      intro U hrU hkU
      have hlt := hr.lt
      have hsU := hkU.size
      have BU := Kq.low hB (by omega) (by omega) hkU
      have hvU := (hkU.at (k := p + 1) (by omega) (by omega)).trans hv
      have KU : Kz (p + 1) (p + 2) (p + 4) W U := ⟨hkU.size, fun b hb _ h => hkU.at hb (by omega)⟩
      have lU : Laid U := l8.below (by rw [HV.out]; exact BU)
      have hiU := (BU.block p (by omega)).trans hb0
      have f0 : U.cell? ⟨p, 0, none⟩ = some (.int .u64 (i : Int)) := by rw [Lib.cell_of_heap hiU]; rfl
      have hpU : p + 1 < U.heap.size := by omega
      have htk : xs.take (k + 1) = xs.take k ++ [x] := by rw [List.take_add_one, hx]; rfl
      have hlk : (xs.take k).length = k := by have := (List.getElem?_eq_some_iff.1 hx).1; rw [List.length_take]; omega
      have hyz : (clF i 0 leaf (xs.take k)).size = 32 := clF_size i _ 0 leaf hlf
      have HT : Hid (clF i 0 leaf (xs.take (k + 1)) = if i / 2 ^ k % 2 = 0 then hs (clF i 0 leaf (xs.take k)) x else hs x (clF i 0 leaf (xs.take k))) := by
       show _ = _
       rw [htk, clF_snoc, Nat.zero_add, hlk]
      obtain ⟨y, hy⟩ : ∃ y, clF i 0 leaf (xs.take k) = y := ⟨_, rfl⟩
      rw [hy] at hvU hyz HT
      have f1 : U.cell? ⟨p + 1, 0, none⟩ = some (.string y) := by rw [Lib.cell_of_heap hvU]; rfl
      have fz : ∀ o, U.frozen? ⟨p + 1, o, none⟩ = false := fun o => by simp [World.frozen?, hvU]
      have fin : ∀ (X : World) (z : ByteArray), Below U.heap.size U X → Rc (p + 3) (mk .busy none) (X.setCell ⟨p + 1, 0, none⟩ (.string z)) ∧ Below (p + 1) w1 (X.setCell ⟨p + 1, 0, none⟩ (.string z)) ∧ (X.setCell ⟨p + 1, 0, none⟩ (.string z)).heap[p + 1]? = some (.cells #[.string z] 9 (0, 0)) ∧ Kz (p + 1) (p + 2) (p + 4) W (X.setCell ⟨p + 1, 0, none⟩ (.string z)) := fun X z hX => by
       have hrX := hrU.below hX
       exact ⟨⟨((Kq.put X (p + 1) 0 _).at hrX.lt (by omega)).trans hrX.1, ((Kq.put X (p + 1) 0 _).at (by have := hrX.lt; omega) (by omega)).trans hrX.2⟩,
        jap (b := p + 1) (Nat.le_refl _) [.string z] 0 _ (BU.trans (hX.mono (by omega))),
        jam ((hX.block (p + 1) hpU).trans hvU) 0 (.string z), (KU.trans (Kz.below hX)).trans (Kz.set X 0 _ (Nat.le_refl _) (by omega))⟩
      have FIN : Hid (∀ (X : World) (z : ByteArray), _ → _) := fin
      have KI := jef x
      have hmk2 : min k 64 = k := by have := (List.getElem?_eq_some_iff.1 hx).1; omega
      obtain ⟨M, hM⟩ : ∃ M, i / 2 ^ k = M := ⟨_, rfl⟩
      have hMq : M < 18446744073709551616 := by rw [← hM]; exact Nat.lt_of_le_of_lt (Nat.div_le_self _ _) hi
      have hMi : (i : Int) / 2 ^ k = (M : Int) := by rw [← hM]; simp
      have hand := jgj M hMq
      rw [hM] at HT
      have HVU : Hid _ := hvU
      clear hM fin hr hB hv hkU KU hvU htk hlk hrU BU
      by_cases hx32 : x.size = 32
      ·rw [decide_eq_true hx32] at KI
       have h32' : ∀ x' ∈ xs.take (k + 1), x'.size = 32 := fun x' hx' => by
        rw [List.take_add_one, hx] at hx'
        rcases List.mem_append.1 hx' with h | h
        ·exact h32 x' h
        ·simp at h; rw [h]; exact hx32
       have H32 : Hid _ := h32'
       clear h32'
       by_cases hev : M % 2 = 0
       ·rw [hev] at hand
        rw [if_pos hev] at HT
        have KS : Hid (∀ (g : Nat) (w : World), _) := fun (g : Nat) (w : World) (hl : Laid w) (hg : g < w.heap.size) h0 h1 => jfj y x _ (jdy _ _) (by omega) (by omega) g w hl hg h0 h1
        gi_wp2
        refine ⟨trivial, fun h => (by cases h), (CallsIn.inRound _ (callsIn_wide.2 (KI U))).mono ?_⟩
        rintro e w3 ⟨rfl, rfl⟩
        gi_wp2
        have A3 : Below w3.heap.size w3 (w3.alloc (.cells #[.string y, .string x] 9)) := (Below.refl _ w3).alloc (Nat.le_refl _) _
        refine ⟨trivial, fun h => (by cases h), (CallsIn.inRound _ (callsIn_wide.2 (KS.out w3.heap.size _ (lU.below A3) (by simp) (by simp [go_sem]) (by simp [go_sem])))).mono ?_⟩
        rintro e w4 ⟨rfl, B4⟩
        have BX := jaa A3 A3.size B4
        have g1 := (BX.cell (p := ⟨p + 1, 0, none⟩) hpU).trans f1
        have gz : ∀ o, w4.frozen? ⟨p + 1, o, none⟩ = false := fun o => (BX.frozen (p := ⟨p + 1, o, none⟩) hpU).trans (fz o)
        clear KS A3 B4 f0 f1 fz hand KI
        gi_wp2
        obtain ⟨q1, q2, q3, q4⟩ := FIN.out w4 (jco (y ++ x)) BX
        refine And.intro q1 ?_
        intro X hrX hkX
        have hlt2 := q1.lt
        refine .inl ⟨rfl, ⟨hrX, Kq.low q2 (by omega) (by omega) hkX, H32.out, ?_⟩, q4.trans ⟨hkX.size, fun b hb _ h => hkX.at hb (by omega)⟩⟩
        rw [HT.out]
        exact (hkX.at (by omega) (by omega)).trans q3
       ·obtain hod : M % 2 = 1 := by omega
        rw [hod] at hand
        rw [if_neg hev] at HT
        have KS : Hid (∀ (g : Nat) (w : World), _) := fun (g : Nat) (w : World) (hl : Laid w) (hg : g < w.heap.size) h0 h1 => jfj x y _ (jdy _ _) (by omega) (by omega) g w hl hg h0 h1
        gi_wp2
        refine ⟨trivial, fun h => (by cases h), (CallsIn.inRound _ (callsIn_wide.2 (KI U))).mono ?_⟩
        rintro e w3 ⟨rfl, rfl⟩
        gi_wp2
        have A3 : Below w3.heap.size w3 (w3.alloc (.cells #[.string x, .string y] 9)) := (Below.refl _ w3).alloc (Nat.le_refl _) _
        refine ⟨trivial, fun h => (by cases h), (CallsIn.inRound _ (callsIn_wide.2 (KS.out w3.heap.size _ (lU.below A3) (by simp) (by simp [go_sem]) (by simp [go_sem])))).mono ?_⟩
        rintro e w4 ⟨rfl, B4⟩
        have BX := jaa A3 A3.size B4
        have g1 := (BX.cell (p := ⟨p + 1, 0, none⟩) hpU).trans f1
        have gz : ∀ o, w4.frozen? ⟨p + 1, o, none⟩ = false := fun o => (BX.frozen (p := ⟨p + 1, o, none⟩) hpU).trans (fz o)
        clear KS A3 B4 f0 f1 fz hand KI
        gi_wp2
        obtain ⟨q1, q2, q3, q4⟩ := FIN.out w4 (jco (x ++ y)) BX
        refine And.intro q1 ?_
        intro X hrX hkX
        have hlt2 := q1.lt
        refine .inl ⟨rfl, ⟨hrX, Kq.low q2 (by omega) (by omega) hkX, H32.out, ?_⟩, q4.trans ⟨hkX.size, fun b hb _ h => hkX.at hb (by omega)⟩⟩
        rw [HT.out]
        exact (hkX.at (by omega) (by omega)).trans q3
      ·rw [decide_eq_false hx32] at KI
       gi_wp2
       refine ⟨trivial, fun h => (by cases h), (CallsIn.inRound _ (callsIn_wide.2 (KI U))).mono ?_⟩
       rintro e w3 ⟨rfl, rfl⟩
       gi_wp2
       obtain ⟨q1, q2, q3, q4⟩ := FIN.out w3 ⟨#[]⟩ (Below.refl _ _)
       refine And.intro q1 ?_
       intro X hrX hkX
       have hlt2 := q1.lt
       exact .inr ⟨rfl, ⟨0, hrX, rfl⟩, Kq.low q2 (by omega) (by omega) hkX, ⟨x, List.mem_of_getElem? hx, hx32⟩, (hkX.at (by omega) (by omega)).trans q3⟩
     rintro e W2 ⟨he, ⟨hr, hB, h32, hv⟩ | ⟨k, hkk, ⟨id, hr, rfl⟩, hB, hex, hv⟩⟩
     ·refine ⟨he, .inl ⟨hr, ?_⟩⟩
      rw [List.take_of_length_le (by omega)] at h32 hv
      have HC : Hid (chk leaf xs i root = decide (clF i 0 leaf xs = root)) := by
       show _ = _
       rw [Bool.eq_iff_iff, chk, decide_eq_true_iff, decide_eq_true_iff]
       exact ⟨fun h => h.2.2.2.2.2, fun h => ⟨by omega, by rw [hN]; exact hiN, hlf, hrt, h32, h⟩⟩
      obtain ⟨y, hy⟩ : ∃ y, clF i 0 leaf xs = y := ⟨_, rfl⟩
      rw [hy] at hv HC
      intro U hdU hkU
      have hlt := hr.lt
      have hvU := (hkU.at (k := p + 1) (by omega) (by omega)).trans hv
      have BU := Kq.low hB (by omega) (by omega) hkU
      have f1 : U.cell? ⟨p + 1, 0, none⟩ = some (.string y) := by rw [Lib.cell_of_heap hvU]; rfl
      have hdl : p + 3 < U.heap.size := (Array.getElem?_eq_some_iff.1 hdU).1
      clear hr hv hvU hkU hB
      by_cases hyr : y = root
      ·subst hyr
       go_wp2
       refine ⟨by simp, .inl ⟨_, _, rfl, run_takeDeferred hdU, ?_⟩⟩
       refine ⟨.bool true, by simp [results, Tryz.results82, go_sem], by rw [HC.out]; simp, ?_⟩
       rw [HP.out]
       exact BV.trans ((jeb BU (by omega) (by omega) _).mono (by omega))
      ·have hne : (y.toList == root.toList) = false := by rw [beq_eq_false_iff_ne]; exact fun e => hyr (toList_inj e)
       go_wp2
       refine ⟨by simp, .inl ⟨_, _, rfl, run_takeDeferred hdU, ?_⟩⟩
       refine ⟨.bool false, by simp [results, Tryz.results82, go_sem], by rw [HC.out, decide_eq_false hyr], ?_⟩
       rw [HP.out]
       exact BV.trans ((jeb BU (by omega) (by omega) _).mono (by omega))
     ·refine ⟨he, .inr ⟨.exit 0, hr, ?_⟩⟩
      have HC : Hid (chk leaf xs i root = false) := decide_eq_false fun h => by
       obtain ⟨x, hx, hx2⟩ := hex
       exact hx2 (h.2.2.2.2.1 x hx)
      intro U hdU hkU
      have hlt := hr.lt
      have hvU := (hkU.at (k := p + 1) (by omega) (by omega)).trans hv
      have BU := Kq.low hB (by omega) (by omega) hkU
      have f1 : U.cell? ⟨p + 1, 0, none⟩ = some (.string ⟨#[]⟩) := by rw [Lib.cell_of_heap hvU]; rfl
      have hdl : p + 3 < U.heap.size := (Array.getElem?_eq_some_iff.1 hdU).1
      have hre : root.toList ≠ [] := fun e => by
       have : root.size = 0 := by
        rw [ByteArray.toList_eq] at e
        show root.data.size = 0
        rw [← Array.length_toList, e]
        rfl
       omega
      have hne : root.toList.isEmpty = false := by cases h : root.toList with
       | nil => exact absurd h hre
       | cons _ _ => rfl
      clear hr hv hvU hkU hB
      gi_wp2
      go_wp2
      refine ⟨by simp, .inl ⟨_, _, rfl, run_takeDeferred hdU, ?_⟩⟩
      refine ⟨.bool false, by simp [results, Tryz.results82, go_sem], by rw [HC.out], ?_⟩
      rw [HP.out]
      exact BV.trans ((jeb BU (by omega) (by omega) _).mono (by omega))
    ·rw [decide_eq_false hrt] at KC2
     have hno := HNO.out (by omega)
     have HX : Hid _ := hno
     clear hno hq
     go_wp2_with fail
     refine (KC1 _).mono ?_
     rintro e w1 ⟨rfl, rfl⟩
     go_wp2_with fail
     refine (KC2 _).mono ?_
     rintro e w1 ⟨rfl, rfl⟩
     go_wp2
     refine ⟨.bool false, by simp [results, Tryz.results82, go_sem], by rw [HX.out], ?_⟩
     rw [HP.out]
     exact BV
   ·rw [decide_eq_false hlf] at KC1
    have hno := HNO.out (by omega)
    have HX : Hid _ := hno
    clear hno hq
    go_wp2_with fail
    refine (KC1 _).mono ?_
    rintro e w1 ⟨rfl, rfl⟩
    go_wp2
    refine ⟨.bool false, by simp [results, Tryz.results82, go_sem], by rw [HX.out], ?_⟩
    rw [HP.out]
    exact BV
end Go.Proofs.YtoddangedbefgabGreatDoor
namespace Go.Proofs.YtoddangedbefgabGreatDoor
open Go.RowKit Go.Shelf Go.Sort
def wyF (i : Nat) : Nat → ByteArray → List ByteArray → List ByteArray
 | _, _, [] => []
 | k, x, y :: r => (if i / 2 ^ k % 2 = 0 then x ++ y else y ++ x) :: wyF i (k + 1) (if i / 2 ^ k % 2 = 0 then hs x y else hs y x) r
theorem wyF_len (i : Nat) : ∀ (r : List ByteArray) (k : Nat) (x : ByteArray), (wyF i k x r).length = r.length
 | [], _, _ => rfl
 | y :: r, k, x => by rw [wyF, List.length_cons, List.length_cons, wyF_len i r]
theorem wyF_snoc (i : Nat) (y : ByteArray) : ∀ (r : List ByteArray) (k : Nat) (x : ByteArray), wyF i k x (r ++ [y]) = wyF i k x r ++ [if i / 2 ^ (k + r.length) % 2 = 0 then clF i k x r ++ y else y ++ clF i k x r]
 | [], k, x => rfl
 | z :: r, k, x => by
  show _ :: wyF i (k + 1) _ (r ++ [y]) = _
  rw [wyF_snoc i y r (k + 1), List.length_cons, show k + 1 + r.length = k + (r.length + 1) by omega]
  rfl
def WyR (i : Nat) (leaf : ByteArray) (xs : List ByteArray) (e : Ending) (w' : World) : Prop := ∃ a c, e = .returned (.tuple #[.slice a (wyF i 0 leaf xs).length c, .string (clF i 0 leaf xs)]) ∧ (wyF i 0 leaf xs).length ≤ c ∧ slS w'.heap.size w' a (wyF i 0 leaf xs)
theorem rway_any (leaf : ByteArray) (hlf : leaf.size = 32) (xs : List ByteArray) (h64 : xs.length ≤ 64) (h32 : ∀ x ∈ xs, x.size = 32) (i : Nat) (hi : i < 18446744073709551616) (a : Option Addr) (c n : Nat) (w : World) (hn : n ≤ w.heap.size) (hp : slS n w a xs) :
  Calls Tryz.prog 39 #[.string leaf, .slice a xs.length c, .int .u64 (i : Int)] w fun e w' => WyR i leaf xs e w' ∧ Below w.heap.size w w' := by
 obtain ⟨i0, hi0, hz0, hz1, hz2⟩ := info_parts jdm
 obtain ⟨N, hN⟩ : ∃ N, xs.length = N := ⟨_, rfl⟩
 have HN : Hid (xs.length = N) := hN
 have H32 : Hid (∀ x ∈ xs, x.size = 32) := h32
 rw [hN] at h64 ⊢
 clear hN h32
 obtain ⟨z, hz⟩ : ∃ z, w.heap.size = z := ⟨_, rfl⟩
 have B0 : Below z w w := Below.refl _ _
 rw [hz] at hn ⊢
 have hz' : z ≤ w.heap.size := by omega
 clear hz
 go_enter Tryz.func39, Tryz.ntmps39
 go_wp2_with fail
 go_loopg [8, 9, 10, 11] N (fun gk v x i' s' wr => ∃ (k : Nat) (y : ByteArray), k + gk = N ∧ i' = .int .i64 (k : Int) ∧ x = .string y ∧ Hid (y = clF i 0 leaf (xs.take k)) ∧ y.size = 32 ∧ Below z w wr ∧ z ≤ wr.heap.size ∧ wr.ownsRow z 9 1 v k ((wyF i 0 leaf (xs.take k)).map .string))
 case atStart => exact ⟨0, leaf, by omega, rfl, rfl, rfl, hlf, B0, hz', World.ownsRow_nil _ _ _ _⟩
 case round =>
  clear B0
  obtain ⟨k, y, hk, rfl, rfl, HY, hyz, BW, hzw, hown⟩ := hrel
  have hr3 : ∀ b, u8.ownBlock = some b → z ≤ b := fun b hb => (hown.lt b hb).1
  by_cases hlt : k < N
  ·have l0 : (k : Int) < N := by omega
   obtain ⟨x, hx⟩ : ∃ x, xs[k]? = some x := ⟨xs[k]'(by have := HN.out; omega), List.getElem?_eq_getElem (by have := HN.out; omega)⟩
   obtain ⟨b, o, rfl, hb, c0⟩ := jci hp k x hx
   replace c0 := (BW.cell (p := ⟨b, _, none⟩) (by show b < z; omega)).trans c0
   have hx32 := H32.out x (List.mem_of_getElem? hx)
   have wk : IntKind.i64.wrap ((k : Int) + 1) = ((k + 1 : Nat) : Int) := by rw [IntKind.wrap_i64]; omega
   have hmk2 : min k 64 = k := by omega
   obtain ⟨M, hM⟩ : ∃ M, i / 2 ^ k = M := ⟨_, rfl⟩
   have hMq : M < 18446744073709551616 := by rw [← hM]; exact Nat.lt_of_le_of_lt (Nat.div_le_self _ _) hi
   have hMi : (i : Int) / 2 ^ k = (M : Int) := by rw [← hM]; simp
   have hand := jgj M hMq
   have htk : xs.take (k + 1) = xs.take k ++ [x] := by rw [List.take_add_one, hx]; rfl
   have hlk : (xs.take k).length = k := by rw [List.length_take, HN.out]; omega
   have HT : Hid (clF i 0 leaf (xs.take (k + 1)) = (if M % 2 = 0 then hs y x else hs x y) ∧ wyF i 0 leaf (xs.take (k + 1)) = wyF i 0 leaf (xs.take k) ++ [if M % 2 = 0 then y ++ x else x ++ y]) := by
    show _ ∧ _
    rw [htk, clF_snoc, wyF_snoc, Nat.zero_add, hlk, hM, HY.out]
    exact ⟨rfl, rfl⟩
   have z1 : ¬ 9223372036854775807 < y.size + x.size := by omega
   have z2 : ¬ 9223372036854775807 < x.size + y.size := by omega
   have K1 : Hid (∀ w : World, _) := fun w : World => jfz (y ++ x) (by rw [ByteArray.size_append]; omega) w
   have K2 : Hid (∀ w : World, _) := fun w : World => jfz (x ++ y) (by rw [ByteArray.size_append]; omega) w
   have FIN : Hid (∀ (s : ByteArray) (v' : Value) (w3 w4 : World), (s = if M % 2 = 0 then y ++ x else x ++ y) → w3.ownsRow z 9 1 v' (k + 1) ((wyF i 0 leaf (xs.take k)).map .string ++ [.string s]) → (wr.alloc (.cells #[.string s] 9)).grownBy w3 u8.ownBlock → Below w3.heap.size w3 w4 →
     (∃ (k' : Nat) (y' : ByteArray), k' + (gk - 1) = N ∧ Value.int .i64 (((k : Nat) : Int) + 1) = .int .i64 (k' : Int) ∧ Value.string (jco s) = .string y' ∧ Hid (y' = clF i 0 leaf (xs.take k')) ∧ y'.size = 32 ∧ Below z w w4 ∧ z ≤ w4.heap.size ∧ w4.ownsRow z 9 1 v' k' ((wyF i 0 leaf (xs.take k')).map .string))) := fun s v' w3 w4 hs0 ho hg hb4 => by
    have hz3 : z ≤ w3.heap.size := Nat.le_trans (by simp; omega) hg.size
    refine ⟨k + 1, jco s, by omega, by congr 1, rfl, ?_, jex _, jaa ((BW.alloc hzw _).grown hg (by simp; omega) (fun b hb => hr3 b hb)) hz3 hb4, Nat.le_trans hz3 hb4.size, ?_⟩
    ·show _ = _
     rw [HT.out.1, hs0]
     split <;> rfl
    ·rw [HT.out.2, ← hs0, List.map_append]
     exact jax ho hb4
   clear htk hlk hM
   by_cases hev : M % 2 = 0
   ·rw [hev] at hand
    have HS : Hid (y ++ x = if M % 2 = 0 then y ++ x else x ++ y) := by show _ = _; rw [if_pos hev]
    clear HT
    go_wp2_with (at_builtin; refine wpList_append_own _ rfl _ _ 27 rfl z 9 i0 (.string ⟨#[]⟩) 1 16 Tryz.underlying27 hi0 hz0 hz1 hz2 rfl (by decide) _ _ _ rfl (jax hown ((Below.refl _ wr).alloc (Nat.le_refl _) _)) ⟨wr.heap.size, 0, none⟩ 1 1 [.string (y ++ x)] rfl rfl (jcg _ _ _) (by intro u hu; simp at hu; subst hu; rfl) (by unfold maxLen; omega) (by omega) (by simp; omega) ?_; intro v' w3 hown' hgrow hiff; clear hiff)
    refine (K1.out _).mono ?_
    rintro e w4 ⟨rfl, B4⟩
    have HF : Hid _ := FIN.out (y ++ x) v' w3 w4 HS.out hown' hgrow B4
    clear hown' hgrow B4 FIN
    go_wp2
    go_roundg (gk - 1)
    case measure => omega
    case rel => exact HF.out
   ·have hod : M % 2 = 1 := by omega
    rw [hod] at hand
    have HS : Hid (x ++ y = if M % 2 = 0 then y ++ x else x ++ y) := by show _ = _; rw [if_neg hev]
    clear HT
    go_wp2_with (at_builtin; refine wpList_append_own _ rfl _ _ 27 rfl z 9 i0 (.string ⟨#[]⟩) 1 16 Tryz.underlying27 hi0 hz0 hz1 hz2 rfl (by decide) _ _ _ rfl (jax hown ((Below.refl _ wr).alloc (Nat.le_refl _) _)) ⟨wr.heap.size, 0, none⟩ 1 1 [.string (x ++ y)] rfl rfl (jcg _ _ _) (by intro u hu; simp at hu; subst hu; rfl) (by unfold maxLen; omega) (by omega) (by simp; omega) ?_; intro v' w3 hown' hgrow hiff; clear hiff)
    refine (K2.out _).mono ?_
    rintro e w4 ⟨rfl, B4⟩
    have HF : Hid _ := FIN.out (x ++ y) v' w3 w4 HS.out hown' hgrow B4
    clear hown' hgrow B4 FIN
    go_wp2
    go_roundg (gk - 1)
    case measure => omega
    case rel => exact HF.out
  ·obtain rfl : k = N := by omega
   have l0 : ¬ (k : Int) < k := by omega
   rw [List.take_of_length_le (by rw [HN.out]; exact Nat.le_refl _)] at hown
   have hlen : (wyF i 0 leaf xs).length = k := by rw [wyF_len]; exact HN.out
   rw [← hlen] at hown
   obtain ⟨a', c', rfl, hsl⟩ := slS_owns hown
   have hc := owns_cap hown
   have HF : Hid (_ ∧ _ ∧ _ ∧ _) := ⟨hc, hsl, BW, (show y = clF i 0 leaf xs by rw [HY.out, List.take_of_length_le (by rw [HN.out]; exact Nat.le_refl _)])⟩
   clear hown hsl BW hc
   go_wp2
   refine bodyPost_ret (v := .tuple #[.slice a' k c', .string y]) (by simp [results, Tryz.results39, go_sem]) rfl ⟨⟨a', c', ?_, HF.out.1, HF.out.2.1⟩, HF.out.2.2.1⟩
   rw [HF.out.2.2.2, hlen]
theorem rcheck_any (leaf : ByteArray) (xs : List ByteArray) (i : Nat) (hi : i < 18446744073709551616) (root : ByteArray) (a : Option Addr) (c n : Nat) (w : World) (hn : n ≤ w.heap.size) (hp : slS n w a xs) :
  Calls Tryz.prog 17 #[.string leaf, .slice a xs.length c, .int .u64 (i : Int), .string root] w fun e w' => e = .returned (.bool (chk leaf xs i root)) ∧ Below w.heap.size w w' := by
 obtain ⟨N, hN⟩ : ∃ N, xs.length = N := ⟨_, rfl⟩
 have HN : Hid (xs.length = N) := hN
 have HNO : Hid (¬ (N ≤ 64 ∧ i < 2 ^ N ∧ leaf.size = 32 ∧ root.size = 32) → chk leaf xs i root = false) := fun h => chk_no (by rw [hN]; exact h)
 rw [hN]
 obtain ⟨z, hz⟩ : ∃ z, w.heap.size = z := ⟨_, rfl⟩
 have B0 : Below z w w := Below.refl _ _
 rw [hz] at hn ⊢
 have hz' : z ≤ w.heap.size := by omega
 have HZ : Hid (w.heap.size = z) := hz
 clear hz
 by_cases hlf : leaf.size = 32
 ·have l1 : (leaf.size : Int) = 32 := by omega
  by_cases hrt : root.size = 32
  ·have l2 : (root.size : Int) = 32 := by omega
   by_cases h64 : 64 < N
   ·have l0 : (64 : Int) < N := by omega
    have HX : Hid _ := HNO.out (by omega)
    go_enter Tryz.func17, Tryz.ntmps17
    go_wp2
    go_ret
    exact ⟨by rw [HX.out]; rfl, B0⟩
   ·have l0 : ¬ (64 : Int) < N := by omega
    have hmin : min N 64 = N := by omega
    have l64 : (N : Int) ≤ 64 := by omega
    obtain ⟨q, hq⟩ : ∃ q, i / 2 ^ N = q := ⟨_, rfl⟩
    have hqi : (i : Int) / 2 ^ N = (q : Int) := by rw [← hq]; simp
    by_cases hiq : i < 2 ^ N
    ·obtain rfl : q = 0 := by rw [← hq]; exact Nat.div_eq_of_lt hiq
     have hqi0 : (i : Int) / 2 ^ N = 0 := by rw [hqi]; rfl
     clear hq hqi HNO
     go_enter Tryz.func17, Tryz.ntmps17
     by_cases hN64 : N < 64
     ·have l5 : (N : Int) < 64 := by omega
      go_wp2_with fail
      go_loopg [9] N (fun gk i' wr => ∃ k : Nat, k + gk = N ∧ i' = .int .i64 (k : Int) ∧ Hid (∀ (j : Nat) (x : ByteArray), j < k → xs[j]? = some x → x.size = 32) ∧ Below z w wr)
      case atStart => exact ⟨0, by omega, rfl, (fun j x h => by omega), B0⟩
      case round =>
       clear B0
       obtain ⟨k, hk, rfl, HA, BW⟩ := hrel
       have hzw : z ≤ wr.heap.size := by have := BW.size; have := HZ.out; omega
       by_cases hlt : k < N
       ·have lk : (k : Int) < N := by omega
        obtain ⟨x, hx⟩ : ∃ x, xs[k]? = some x := ⟨xs[k]'(by have := HN.out; omega), List.getElem?_eq_getElem (by have := HN.out; omega)⟩
        obtain ⟨b, o, rfl, hb, c0⟩ := jci hp k x hx
        replace c0 := (BW.cell (p := ⟨b, _, none⟩) (by show b < z; omega)).trans c0
        have wk : IntKind.i64.wrap ((k : Int) + 1) = ((k + 1 : Nat) : Int) := by rw [IntKind.wrap_i64]; omega
        by_cases hx32 : x.size = 32
        ·have lx : (x.size : Int) = 32 := by omega
         have HA2 : Hid (∀ (j : Nat) (x : ByteArray), j < k + 1 → xs[j]? = some x → x.size = 32) := fun j x' hj hx' => by
          by_cases e : j = k
          ·subst e
           rw [hx] at hx'
           cases hx'
           exact hx32
          ·exact HA.out j x' (by omega) hx'
         go_wp2
         go_roundg (gk - 1)
         case measure => omega
         case rel => exact ⟨k + 1, by omega, by first | rfl | (congr 1; omega), HA2, BW⟩
        ·have lx : ¬ (x.size : Int) = 32 := by omega
         have HX : Hid (chk leaf xs i root = false) := decide_eq_false fun h => hx32 (h.2.2.2.2.1 x (List.mem_of_getElem? hx))
         go_wp2
         go_ret
         exact ⟨by rw [HX.out]; rfl, BW⟩
       ·obtain rfl : k = N := by omega
        have lk : ¬ (k : Int) < k := by omega
        have h32 : ∀ x ∈ xs, x.size = 32 := fun x hx => by
         obtain ⟨j, hj⟩ := List.mem_iff_getElem?.1 hx
         exact HA.out j x (by have := (List.getElem?_eq_some_iff.1 hj).1; have := HN.out; omega) hj
        have HC : Hid (chk leaf xs i root = decide (clF i 0 leaf xs = root)) := by
         show _ = _
         rw [Bool.eq_iff_iff, chk, decide_eq_true_iff, decide_eq_true_iff]
         exact ⟨fun h => h.2.2.2.2.2, fun h => ⟨by have := HN.out; omega, by rw [HN.out]; exact hiq, hlf, hrt, h32, h⟩⟩
        have KW := rway_any leaf hlf xs (by have := HN.out; omega) h32 i hi a c n wr (by omega) (jan (BW.mono hn) hp)
        rw [HN.out] at KW
        obtain ⟨y, hy⟩ : ∃ y, clF i 0 leaf xs = y := ⟨_, rfl⟩
        unfold WyR at KW
        rw [hy] at KW HC
        clear hy
        go_wp2_with fail
        refine KW.mono ?_
        rintro e w4 ⟨⟨a', c', rfl, -, -⟩, B4⟩
        have BW4 := jaa BW hzw B4
        clear KW BW B4
        by_cases hyr : y = root
        ·subst hyr
         go_wp2
         go_ret
         exact ⟨by rw [HC.out]; simp, BW4⟩
        ·have hne : (y.toList == root.toList) = false := by rw [beq_eq_false_iff_ne]; exact fun e => hyr (toList_inj e)
         go_wp2
         go_ret
         exact ⟨by rw [HC.out, decide_eq_false hyr]; rfl, BW4⟩
     ·have l5 : ¬ (N : Int) < 64 := by omega
      go_wp2_with fail
      go_loopg [9] N (fun gk i' wr => ∃ k : Nat, k + gk = N ∧ i' = .int .i64 (k : Int) ∧ Hid (∀ (j : Nat) (x : ByteArray), j < k → xs[j]? = some x → x.size = 32) ∧ Below z w wr)
      case atStart => exact ⟨0, by omega, rfl, (fun j x h => by omega), B0⟩
      case round =>
       clear B0
       obtain ⟨k, hk, rfl, HA, BW⟩ := hrel
       have hzw : z ≤ wr.heap.size := by have := BW.size; have := HZ.out; omega
       by_cases hlt : k < N
       ·have lk : (k : Int) < N := by omega
        obtain ⟨x, hx⟩ : ∃ x, xs[k]? = some x := ⟨xs[k]'(by have := HN.out; omega), List.getElem?_eq_getElem (by have := HN.out; omega)⟩
        obtain ⟨b, o, rfl, hb, c0⟩ := jci hp k x hx
        replace c0 := (BW.cell (p := ⟨b, _, none⟩) (by show b < z; omega)).trans c0
        have wk : IntKind.i64.wrap ((k : Int) + 1) = ((k + 1 : Nat) : Int) := by rw [IntKind.wrap_i64]; omega
        by_cases hx32 : x.size = 32
        ·have lx : (x.size : Int) = 32 := by omega
         have HA2 : Hid (∀ (j : Nat) (x : ByteArray), j < k + 1 → xs[j]? = some x → x.size = 32) := fun j x' hj hx' => by
          by_cases e : j = k
          ·subst e
           rw [hx] at hx'
           cases hx'
           exact hx32
          ·exact HA.out j x' (by omega) hx'
         go_wp2
         go_roundg (gk - 1)
         case measure => omega
         case rel => exact ⟨k + 1, by omega, by first | rfl | (congr 1; omega), HA2, BW⟩
        ·have lx : ¬ (x.size : Int) = 32 := by omega
         have HX : Hid (chk leaf xs i root = false) := decide_eq_false fun h => hx32 (h.2.2.2.2.1 x (List.mem_of_getElem? hx))
         go_wp2
         go_ret
         exact ⟨by rw [HX.out]; rfl, BW⟩
       ·obtain rfl : k = N := by omega
        have lk : ¬ (k : Int) < k := by omega
        have h32 : ∀ x ∈ xs, x.size = 32 := fun x hx => by
         obtain ⟨j, hj⟩ := List.mem_iff_getElem?.1 hx
         exact HA.out j x (by have := (List.getElem?_eq_some_iff.1 hj).1; have := HN.out; omega) hj
        have HC : Hid (chk leaf xs i root = decide (clF i 0 leaf xs = root)) := by
         show _ = _
         rw [Bool.eq_iff_iff, chk, decide_eq_true_iff, decide_eq_true_iff]
         exact ⟨fun h => h.2.2.2.2.2, fun h => ⟨by have := HN.out; omega, by rw [HN.out]; exact hiq, hlf, hrt, h32, h⟩⟩
        have KW := rway_any leaf hlf xs (by have := HN.out; omega) h32 i hi a c n wr (by omega) (jan (BW.mono hn) hp)
        rw [HN.out] at KW
        obtain ⟨y, hy⟩ : ∃ y, clF i 0 leaf xs = y := ⟨_, rfl⟩
        unfold WyR at KW
        rw [hy] at KW HC
        clear hy
        go_wp2_with fail
        refine KW.mono ?_
        rintro e w4 ⟨⟨a', c', rfl, -, -⟩, B4⟩
        have BW4 := jaa BW hzw B4
        clear KW BW B4
        by_cases hyr : y = root
        ·subst hyr
         go_wp2
         go_ret
         exact ⟨by rw [HC.out]; simp, BW4⟩
        ·have hne : (y.toList == root.toList) = false := by rw [beq_eq_false_iff_ne]; exact fun e => hyr (toList_inj e)
         go_wp2
         go_ret
         exact ⟨by rw [HC.out, decide_eq_false hyr]; rfl, BW4⟩
    ·have hq1 : 0 < q := by rw [← hq]; exact Nat.div_pos (by omega) (Nat.two_pow_pos N)
     have hN64 : N < 64 := by
      rcases Nat.lt_or_ge N 64 with h | h
      ·exact h
      ·exfalso
       have : N = 64 := by omega
       subst this
       exact hiq (by omega)
     have l5 : (N : Int) < 64 := by omega
     have l6 : ¬ (q : Int) = 0 := by omega
     have l7 : ((q : Int) == 0) = false := by rw [beq_eq_false_iff_ne]; exact l6
     have HX : Hid _ := HNO.out (by omega)
     go_enter Tryz.func17, Tryz.ntmps17
     go_wp2
     go_ret
     exact ⟨by rw [HX.out]; rfl, B0⟩
  ·have l2 : ¬ (root.size : Int) = 32 := by omega
   have HX : Hid _ := HNO.out (by omega)
   go_enter Tryz.func17, Tryz.ntmps17
   go_wp2
   go_ret
   exact ⟨by rw [HX.out]; rfl, B0⟩
 ·have l1 : ¬ (leaf.size : Int) = 32 := by omega
  have HX : Hid _ := HNO.out (by omega)
  go_enter Tryz.func17, Tryz.ntmps17
  go_wp2
  go_ret
  exact ⟨by rw [HX.out]; rfl, B0⟩
end Go.Proofs.YtoddangedbefgabGreatDoor
namespace Go.Proofs.YtoddangedbefgabGreatDoor
open Go.RowKit Go.Shelf Go.Sort
theorem run_append_list (W : World) (ty : TypeId) (z : Nat) (v : Value) (k : Nat) (ys : List Value) (hown : W.ownsRow z 9 1 v k ys) (xs : List ByteArray) (a : Option Addr) (m c n : Nat) (hm : xs.length = m) (hs : slS n W a xs) (hk : k ≤ 1000000) (hl : m ≤ 1000000) (hz : z ≤ W.heap.size) :
  ∃ v' w', (Builtin.append_ #[27, 27] ty #[v, .slice a m c]).run Tryz.prog W = .ok v' w' ∧ w'.ownsRow z 9 1 v' (k + m) (ys ++ xs.map .string) ∧ W.grownBy w' v.ownBlock := by
 obtain ⟨i0, hi0, hz0, hz1, hz2⟩ := info_parts jdm
 subst hm
 rcases hs with e | ⟨b, off, rfl, hb, hcl⟩
 ·subst e
  obtain ⟨a1, c1, rfl⟩ := jck hown
  exact ⟨_, _, jen W 27 ty 9 i0 Tryz.underlying27 hi0 a1 k c1 (owns_cap hown) a c, by rw [List.map_nil, List.append_nil]; exact hown, ⟨rfl, rfl, rfl, Nat.le_refl _, fun _ _ _ => rfl⟩⟩
 ·obtain ⟨v', w', h1, h2, h3, _⟩ := run_append_own (P := Tryz.prog) W z 27 ty 9 i0 (.string ⟨#[]⟩) 1 16 Tryz.underlying27 hi0 hz0 hz1 hz2 rfl (by decide) v k ys hown ⟨b, off, none⟩ xs.length c (xs.map .string) (by rw [List.length_map, Nat.mul_one]) (fun j u hu => by
   rw [Addr.add_mid]
   rw [List.getElem?_map] at hu
   cases hxj : xs[j]? with
   | none => rw [hxj] at hu; cases hu
   | some y =>
    rw [hxj] at hu
    cases hu
    exact hcl j y hxj) (fun u hu => by
   obtain ⟨y, _, rfl⟩ := List.mem_map.1 hu
   rfl) (by unfold maxLen; omega) (by omega) hz
  exact ⟨v', w', h1, h2, h3⟩
theorem jfe {P : Program} {w : World} {ops : Array Oper} {rest : List Oper} {o : Oper} {a : Act} {Q : Exit → Act → World → Prop} (hw : Region.wanted o (yielded ops a.tmps) = true) (sl x : Operand) (t u : TypeId)
  (ho : o.op = .call { callee := .builtin .append, args := #[sl, x], argTypes := #[t, u] }) (v y v' : Value) (w' : World) (hs : a.eval sl = v) (hx : a.eval x = y)
  (hr : (Builtin.append_ #[t, u] o.type #[v, y]).run P w = .ok v' w') (h : wpList P ops Q rest (a.put o.dst v') w') : wpList P ops Q (o :: rest) a w := by
 refine wpList_step fun K hK => ?_
 rw [if_pos hw]
 unfold Oper.wp execOp
 simp only [ho, resolve, invoke, builtin, Sem.run_bind, Sem.run_pure, Result.andThen_ok, List.map_toArray, List.map_cons, List.map_nil, hs, hx, hr]
 exact hK _ _ h
def rtS (xs : List ByteArray) (d : Nat) : ByteArray := if rt8 xs d = true then lf (lvs xs) d 0 else ⟨#[]⟩
def rtE (xs : List ByteArray) (d : Nat) : Int := if rt8 xs d = true then 0 else 130
def hdC (s u : Int) (p t b : ByteArray) : List ByteArray := [jbh s, jbh u, p, t, b]
def exC (a r : ByteArray) (n : Int) : List ByteArray := [a, r, jbh n]
theorem jgq (xs : List ByteArray) (d : Nat) (a : Option Addr) (c n : Nat) (w : World) (hl : Laid w) (hn : n ≤ w.heap.size) (hp : slS n w a xs) :
  Calls Tryz.prog 79 #[.int .i64 (d : Int), .slice a xs.length c] w fun e w' => e = .returned (.tuple #[.string (rtS xs d), .int .i64 (rtE xs d)]) ∧ Below w.heap.size w w' := by
 have KR := z_root_any xs d a c n w hl hn hp
 unfold rootV at KR
 obtain ⟨N, hN⟩ : ∃ N, xs.length = N := ⟨_, rfl⟩
 rw [hN] at KR ⊢
 unfold rtS rtE
 cases hr : rt8 xs d with
 | true =>
  rw [hr, if_pos rfl] at KR
  rw [if_pos rfl, if_pos rfl]
  obtain ⟨s, hs⟩ : ∃ s, lf (lvs xs) d 0 = s := ⟨_, rfl⟩
  rw [Int.toNat_natCast, hs] at KR
  rw [hs]
  clear hs hr
  go_enter Tryz.func79, Tryz.ntmps79
  go_wp2_with fail
  refine KR.mono ?_
  rintro e w1 ⟨rfl, B1⟩
  go_wp2
  go_ret2
  exact ⟨rfl, B1⟩
 | false =>
  rw [hr, if_neg (by decide)] at KR
  rw [if_neg (by decide), if_neg (by decide)]
  clear hr
  go_enter Tryz.func79, Tryz.ntmps79
  go_wp2_with fail
  refine KR.mono ?_
  rintro e w1 ⟨rfl, B1⟩
  go_wp2
  go_ret2
  exact ⟨rfl, B1⟩
structure Mu_root (V : World) (z : Nat) (v2 s u : Int) (n0 n1 v1 p t b : ByteArray) (S : Nat → Bool) (x4 x5 x6 x7 x8 x9 x10 x11 x12 x13 x14 x15 x16 x17 x18 x19 : Value) (W : World) : Prop where
 e : Below V.heap.size V W
 f0 : S 0 = true → x4 = Value.pointer (some ⟨z, 0, none⟩)
 f1 : S 1 = true → x5 = Value.int .u64 s
 f2 : S 2 = true → x6 = Value.string n0
 f3 : S 3 = true → x7 = Value.pointer (some ⟨z, 1, none⟩)
 f4 : S 4 = true → x8 = Value.int .u64 u
 f5 : S 5 = true → x9 = Value.string n1
 f6 : S 6 = true → x10 = Value.pointer (some ⟨z, 2, none⟩)
 f7 : S 7 = true → x11 = Value.string p
 f8 : S 8 = true → x12 = Value.pointer (some ⟨z, 3, none⟩)
 f9 : S 9 = true → x13 = Value.string t
 f10 : S 10 = true → x14 = Value.pointer (some ⟨z, 4, none⟩)
 f11 : S 11 = true → x15 = Value.string b
 f12 : S 12 = true → ∃ g, x16 = .slice (some ⟨g, 0, none⟩) 5 5 ∧ V.heap.size ≤ g ∧ g < W.heap.size ∧ W.heap[g]? = some (.cells #[.string n0, .string n1, .string p, .string t, .string b] 9 (0, 0))
 f13 : S 13 = true → x17 = Value.tuple #[.string v1, .int .i64 v2]
 f14 : S 14 = true → x18 = Value.string v1
 f15 : S 15 = true → x19 = Value.int .i64 v2
theorem Mu_root.grow {V : World} {z : Nat} {v2 s u : Int} {n0 n1 v1 p t b : ByteArray} {S : Nat → Bool} {x4 x5 x6 x7 x8 x9 x10 x11 x12 x13 x14 x15 x16 x17 x18 x19 : Value} {W W' : World} (h : Mu_root V z v2 s u n0 n1 v1 p t b S x4 x5 x6 x7 x8 x9 x10 x11 x12 x13 x14 x15 x16 x17 x18 x19 W) (hb : Below W.heap.size W W') : Mu_root V z v2 s u n0 n1 v1 p t b S x4 x5 x6 x7 x8 x9 x10 x11 x12 x13 x14 x15 x16 x17 x18 x19 W' :=
 ⟨jaa h.e h.e.size hb, h.f0, h.f1, h.f2, h.f3, h.f4, h.f5, h.f6, h.f7, h.f8, h.f9, h.f10, h.f11, fun s => (h.f12 s).imp fun _ ⟨j1, j0, j2, j3⟩ => ⟨j1, j0, Nat.lt_of_lt_of_le j2 hb.size, (hb.block _ j2).trans j3⟩, h.f13, h.f14, h.f15⟩
theorem hroot_any (s u : Int) (p t b : ByteArray) (w : World) (hl : Laid w) :
  Calls Tryz.prog 42 #[.agg #[.int .u64 s, .int .u64 u, .string p, .string t, .string b]] w fun e w' => e = .returned (.tuple #[.string (rtS (hdC s u p t b) 3), .int .i64 (rtE (hdC s u p t b) 3)]) ∧ Below w.heap.size w w' := by
 have A0 : Below w.heap.size w (w.alloc (.cells #[.int .u64 s, .int .u64 u, .string p, .string t, .string b] 24)) := (Below.refl _ w).alloc (Nat.le_refl _) _
 have hx : (w.alloc (.cells #[.int .u64 s, .int .u64 u, .string p, .string t, .string b] 24)).heap[w.heap.size]? = some (.cells #[.int .u64 s, .int .u64 u, .string p, .string t, .string b] 24 (0, 0)) := World.alloc_heap_new w _
 obtain ⟨w1, hw1⟩ : ∃ W, w.alloc (.cells #[.int .u64 s, .int .u64 u, .string p, .string t, .string b] 24) = W := ⟨_, rfl⟩
 rw [hw1] at A0 hx
 obtain ⟨z, hz⟩ : ∃ z, w.heap.size = z := ⟨_, rfl⟩
 have HZ : Hid (w.heap.size = z) := hz
 have hzw : z < w1.heap.size := by rw [← hz]; exact (Array.getElem?_eq_some_iff.1 hx).1
 have hl1 := hl.below A0
 rw [hz] at A0 hx
 have KN0 : ∀ w : World, _ := fun w => jdo s w
 obtain ⟨n0, hn0⟩ : ∃ x, jbh s = x := ⟨_, rfl⟩
 rw [hn0] at KN0
 have KN1 : ∀ w : World, _ := fun w => jdo u w
 obtain ⟨n1, hn1⟩ : ∃ x, jbh u = x := ⟨_, rfl⟩
 rw [hn1] at KN1
 obtain ⟨v1, hv1⟩ : ∃ v, rtS (hdC s u p t b) 3 = v := ⟨_, rfl⟩
 obtain ⟨v2, hv2⟩ : ∃ v, rtE (hdC s u p t b) 3 = v := ⟨_, rfl⟩
 rw [hv1, hv2]
 have KR : ∀ (g : Nat) (W : World), Laid W → W.heap[g]? = some (.cells #[.string n0, .string n1, .string p, .string t, .string b] 9 (0, 0)) → Calls Tryz.prog 79 #[.int .i64 (3 : Nat), .slice (some ⟨g, 0, none⟩) 5 5] W fun e w' => e = .returned (.tuple #[.string v1, .int .i64 v2]) ∧ Below W.heap.size W w' := fun g W hL hg => by
  have := jgq (hdC s u p t b) 3 (some ⟨g, 0, none⟩) 5 (g + 1) W hL (Array.getElem?_eq_some_iff.1 hg).1 (.inr ⟨_, _, rfl, by omega, fun j x hj => by
   rw [Lib.cell_of_heap hg, Nat.zero_add]
   unfold hdC at hj
   rw [hn0, hn1] at hj
   match j, hj with
   | 0, hj => cases hj; rfl
   | 1, hj => cases hj; rfl
   | 2, hj => cases hj; rfl
   | 3, hj => cases hj; rfl
   | 4, hj => cases hj; rfl
   | j + 5, hj => simp at hj⟩)
  rw [hv1, hv2] at this
  exact this
 have c0 : w1.cell? ⟨z, 0, none⟩ = some (.int .u64 s) := by rw [Lib.cell_of_heap hx]; rfl
 have c1 : w1.cell? ⟨z, 1, none⟩ = some (.int .u64 u) := by rw [Lib.cell_of_heap hx]; rfl
 have c2 : w1.cell? ⟨z, 2, none⟩ = some (.string p) := by rw [Lib.cell_of_heap hx]; rfl
 have c3 : w1.cell? ⟨z, 3, none⟩ = some (.string t) := by rw [Lib.cell_of_heap hx]; rfl
 have c4 : w1.cell? ⟨z, 4, none⟩ = some (.string b) := by rw [Lib.cell_of_heap hx]; rfl
 clear hx hn0 hn1 hv1 hv2
 go_enter Tryz.func42, Tryz.ntmps42
 go_wp2_with fail
 refine jaw 16 (fun S aa W => ∃ x4 x5 x6 x7 x8 x9 x10 x11 x12 x13 x14 x15 x16 x17 x18 x19 : Value, aa = { tmps := #[Value.agg #[Value.int IntKind.u64 s, Value.int IntKind.u64 u, Value.string p, Value.string t, Value.string b], Value.pointer (some { block := z, off := 0 }), Value.string { data := #[] }, Value.int IntKind.i64 0, x4, x5, x6, x7, x8, x9, x10, x11, x12, x13, x14, x15, x16, x17, x18, x19], defers := [] } ∧ Mu_root w1 z v2 s u n0 n1 v1 p t b S x4 x5 x6 x7 x8 x9 x10 x11 x12 x13 x14 x15 x16 x17 x18 x19 W) (by kernel_rfl) (by kernel_rfl) ?_ ?_ ?_
 ·exact ⟨undef, undef, undef, undef, undef, undef, undef, undef, undef, undef, undef, undef, undef, undef, undef, undef, rfl, ⟨(Below.refl _ w1).drew, nofun, nofun, nofun, nofun, nofun, nofun, nofun, nofun, nofun, nofun, nofun, nofun, nofun, nofun, nofun, nofun⟩⟩
 ·intro i o S aa W hin hi hun hJ hall K hK
  obtain ⟨x4, x5, x6, x7, x8, x9, x10, x11, x12, x13, x14, x15, x16, x17, x18, x19, rfl, h⟩ := hJ
  have hlt : i < 16 := hin
  have hcase : i = 0 ∨ i = 1 ∨ i = 2 ∨ i = 3 ∨ i = 4 ∨ i = 5 ∨ i = 6 ∨ i = 7 ∨ i = 8 ∨ i = 9 ∨ i = 10 ∨ i = 11 ∨ i = 12 ∨ i = 13 ∨ i = 14 ∨ i = 15 := by omega
  rcases hcase with rfl | rfl | rfl | rfl | rfl | rfl | rfl | rfl | rfl | rfl | rfl | rfl | rfl | rfl | rfl | rfl
  all_goals (have ho := (Option.some.inj hi).symm; subst ho; clear hi hlt hin)
  ·go_simp
   exact hK _ _ ⟨_, _, _, _, _, _, _, _, _, _, _, _, _, _, _, _, rfl, { h with f0 := fun _ => rfl }⟩
  ·have s_0 : S 0 = true := hall ⟨0, .data⟩ (by simp) rfl
   obtain rfl := h.f0 s_0
   have cW := (h.e.cell (p := ⟨z, 0, none⟩) hzw).trans c0
   go_simp
   exact hK _ _ ⟨_, _, _, _, _, _, _, _, _, _, _, _, _, _, _, _, rfl, { h with f1 := fun _ => rfl }⟩
  ·have s_1 : S 1 = true := hall ⟨1, .data⟩ (by simp) rfl
   obtain rfl := h.f1 s_1
   go_simp
   refine (KN0 W).mono ?_
   rintro e w5 ⟨rfl, hb5⟩
   have h1 := h.grow hb5
   exact hK _ _ ⟨_, _, _, _, _, _, _, _, _, _, _, _, _, _, _, _, rfl, { h1 with f2 := fun _ => rfl }⟩
  ·go_simp
   exact hK _ _ ⟨_, _, _, _, _, _, _, _, _, _, _, _, _, _, _, _, rfl, { h with f3 := fun _ => rfl }⟩
  ·have s_3 : S 3 = true := hall ⟨3, .data⟩ (by simp) rfl
   obtain rfl := h.f3 s_3
   have cW := (h.e.cell (p := ⟨z, 1, none⟩) hzw).trans c1
   go_simp
   exact hK _ _ ⟨_, _, _, _, _, _, _, _, _, _, _, _, _, _, _, _, rfl, { h with f4 := fun _ => rfl }⟩
  ·have s_4 : S 4 = true := hall ⟨4, .data⟩ (by simp) rfl
   obtain rfl := h.f4 s_4
   go_simp
   refine (KN1 W).mono ?_
   rintro e w5 ⟨rfl, hb5⟩
   have h1 := h.grow hb5
   exact hK _ _ ⟨_, _, _, _, _, _, _, _, _, _, _, _, _, _, _, _, rfl, { h1 with f5 := fun _ => rfl }⟩
  ·go_simp
   exact hK _ _ ⟨_, _, _, _, _, _, _, _, _, _, _, _, _, _, _, _, rfl, { h with f6 := fun _ => rfl }⟩
  ·have s_6 : S 6 = true := hall ⟨6, .data⟩ (by simp) rfl
   obtain rfl := h.f6 s_6
   have cW := (h.e.cell (p := ⟨z, 2, none⟩) hzw).trans c2
   go_simp
   exact hK _ _ ⟨_, _, _, _, _, _, _, _, _, _, _, _, _, _, _, _, rfl, { h with f7 := fun _ => rfl }⟩
  ·go_simp
   exact hK _ _ ⟨_, _, _, _, _, _, _, _, _, _, _, _, _, _, _, _, rfl, { h with f8 := fun _ => rfl }⟩
  ·have s_8 : S 8 = true := hall ⟨8, .data⟩ (by simp) rfl
   obtain rfl := h.f8 s_8
   have cW := (h.e.cell (p := ⟨z, 3, none⟩) hzw).trans c3
   go_simp
   exact hK _ _ ⟨_, _, _, _, _, _, _, _, _, _, _, _, _, _, _, _, rfl, { h with f9 := fun _ => rfl }⟩
  ·go_simp
   exact hK _ _ ⟨_, _, _, _, _, _, _, _, _, _, _, _, _, _, _, _, rfl, { h with f10 := fun _ => rfl }⟩
  ·have s_10 : S 10 = true := hall ⟨10, .data⟩ (by simp) rfl
   obtain rfl := h.f10 s_10
   have cW := (h.e.cell (p := ⟨z, 4, none⟩) hzw).trans c4
   go_simp
   exact hK _ _ ⟨_, _, _, _, _, _, _, _, _, _, _, _, _, _, _, _, rfl, { h with f11 := fun _ => rfl }⟩
  ·have s_2 : S 2 = true := hall ⟨2, .data⟩ (by simp) rfl
   obtain rfl := h.f2 s_2
   have s_5 : S 5 = true := hall ⟨5, .data⟩ (by simp) rfl
   obtain rfl := h.f5 s_5
   have s_7 : S 7 = true := hall ⟨7, .data⟩ (by simp) rfl
   obtain rfl := h.f7 s_7
   have s_9 : S 9 = true := hall ⟨9, .data⟩ (by simp) rfl
   obtain rfl := h.f9 s_9
   have s_11 : S 11 = true := hall ⟨11, .data⟩ (by simp) rfl
   obtain rfl := h.f11 s_11
   go_simp
   have h1 := h.grow ((Below.refl _ W).alloc (Nat.le_refl _) (.cells #[.string n0, .string n1, .string p, .string t, .string b] 9))
   exact hK _ _ ⟨_, _, _, _, _, _, _, _, _, _, _, _, _, _, _, _, rfl, { h1 with f12 := fun _ => ⟨W.heap.size, rfl, h.e.size, by simp, World.alloc_heap_new W _⟩ }⟩
  ·have s_12 : S 12 = true := hall ⟨12, .data⟩ (by simp) rfl
   obtain ⟨g12, rfl, hg12, hh12, hc12⟩ := h.f12 s_12
   go_simp
   refine (KR g12 W (hl1.below h.e) hc12).mono ?_
   rintro e w5 ⟨rfl, hb5⟩
   have h1 := h.grow hb5
   exact hK _ _ ⟨_, _, _, _, _, _, _, _, _, _, _, _, _, _, _, _, rfl, { h1 with f13 := fun _ => rfl }⟩
  ·have s_13 : S 13 = true := hall ⟨13, .data⟩ (by simp) rfl
   obtain rfl := h.f13 s_13
   go_simp
   exact hK _ _ ⟨_, _, _, _, _, _, _, _, _, _, _, _, _, _, _, _, rfl, { h with f14 := fun _ => rfl }⟩
  ·have s_13 : S 13 = true := hall ⟨13, .data⟩ (by simp) rfl
   obtain rfl := h.f13 s_13
   go_simp
   exact hK _ _ ⟨_, _, _, _, _, _, _, _, _, _, _, _, _, _, _, _, rfl, { h with f15 := fun _ => rfl }⟩
 ·rintro S aa W hall ⟨x4, x5, x6, x7, x8, x9, x10, x11, x12, x13, x14, x15, x16, x17, x18, x19, rfl, h⟩
  obtain rfl := h.f0 (hall 0 (by decide))
  obtain rfl := h.f1 (hall 1 (by decide))
  obtain rfl := h.f2 (hall 2 (by decide))
  obtain rfl := h.f3 (hall 3 (by decide))
  obtain rfl := h.f4 (hall 4 (by decide))
  obtain rfl := h.f5 (hall 5 (by decide))
  obtain rfl := h.f6 (hall 6 (by decide))
  obtain rfl := h.f7 (hall 7 (by decide))
  obtain rfl := h.f8 (hall 8 (by decide))
  obtain rfl := h.f9 (hall 9 (by decide))
  obtain rfl := h.f10 (hall 10 (by decide))
  obtain rfl := h.f11 (hall 11 (by decide))
  obtain ⟨gg, rfl, hgg, hhg, hcg⟩ := h.f12 (hall 12 (by decide))
  obtain rfl := h.f13 (hall 13 (by decide))
  obtain rfl := h.f14 (hall 14 (by decide))
  obtain rfl := h.f15 (hall 15 (by decide))
  have BWD := h.e
  clear h hall
  simp only [List.drop_succ_cons, List.drop_zero]
  have B8 := A0.trans (BWD.mono (by omega))
  have HX : Hid _ := B8
  clear B8 BWD A0 hcg hgg hhg
  go_wp2
  go_ret2
  refine ⟨rfl, ?_⟩
  rw [HZ.out]
  exact HX.out
structure Mu_exec (V : World) (z : Nat) (v2 s : Int) (n0 v1 p t : ByteArray) (S : Nat → Bool) (x4 x5 x6 x7 x8 x9 x10 x11 x12 x13 x14 : Value) (W : World) : Prop where
 e : Below V.heap.size V W
 f0 : S 0 = true → x4 = Value.pointer (some ⟨z, 0, none⟩)
 f1 : S 1 = true → x5 = Value.string p
 f2 : S 2 = true → x6 = Value.pointer (some ⟨z, 1, none⟩)
 f3 : S 3 = true → x7 = Value.string t
 f4 : S 4 = true → x8 = Value.pointer (some ⟨z, 2, none⟩)
 f5 : S 5 = true → x9 = Value.int .u64 s
 f6 : S 6 = true → x10 = Value.string n0
 f7 : S 7 = true → ∃ g, x11 = .slice (some ⟨g, 0, none⟩) 3 3 ∧ V.heap.size ≤ g ∧ g < W.heap.size ∧ W.heap[g]? = some (.cells #[.string p, .string t, .string n0] 9 (0, 0))
 f8 : S 8 = true → x12 = Value.tuple #[.string v1, .int .i64 v2]
 f9 : S 9 = true → x13 = Value.string v1
 f10 : S 10 = true → x14 = Value.int .i64 v2
theorem Mu_exec.grow {V : World} {z : Nat} {v2 s : Int} {n0 v1 p t : ByteArray} {S : Nat → Bool} {x4 x5 x6 x7 x8 x9 x10 x11 x12 x13 x14 : Value} {W W' : World} (h : Mu_exec V z v2 s n0 v1 p t S x4 x5 x6 x7 x8 x9 x10 x11 x12 x13 x14 W) (hb : Below W.heap.size W W') : Mu_exec V z v2 s n0 v1 p t S x4 x5 x6 x7 x8 x9 x10 x11 x12 x13 x14 W' :=
 ⟨jaa h.e h.e.size hb, h.f0, h.f1, h.f2, h.f3, h.f4, h.f5, h.f6, fun s => (h.f7 s).imp fun _ ⟨j1, j0, j2, j3⟩ => ⟨j1, j0, Nat.lt_of_lt_of_le j2 hb.size, (hb.block _ j2).trans j3⟩, h.f8, h.f9, h.f10⟩
theorem xroot_any (p t : ByteArray) (s : Int) (w : World) (hl : Laid w) :
  Calls Tryz.prog 81 #[.agg #[.string p, .string t, .int .u64 s]] w fun e w' => e = .returned (.tuple #[.string (rtS (exC p t s) 2), .int .i64 (rtE (exC p t s) 2)]) ∧ Below w.heap.size w w' := by
 have A0 : Below w.heap.size w (w.alloc (.cells #[.string p, .string t, .int .u64 s] 26)) := (Below.refl _ w).alloc (Nat.le_refl _) _
 have hx : (w.alloc (.cells #[.string p, .string t, .int .u64 s] 26)).heap[w.heap.size]? = some (.cells #[.string p, .string t, .int .u64 s] 26 (0, 0)) := World.alloc_heap_new w _
 obtain ⟨w1, hw1⟩ : ∃ W, w.alloc (.cells #[.string p, .string t, .int .u64 s] 26) = W := ⟨_, rfl⟩
 rw [hw1] at A0 hx
 obtain ⟨z, hz⟩ : ∃ z, w.heap.size = z := ⟨_, rfl⟩
 have HZ : Hid (w.heap.size = z) := hz
 have hzw : z < w1.heap.size := by rw [← hz]; exact (Array.getElem?_eq_some_iff.1 hx).1
 have hl1 := hl.below A0
 rw [hz] at A0 hx
 have KN0 : ∀ w : World, _ := fun w => jdo s w
 obtain ⟨n0, hn0⟩ : ∃ x, jbh s = x := ⟨_, rfl⟩
 rw [hn0] at KN0
 obtain ⟨v1, hv1⟩ : ∃ v, rtS (exC p t s) 2 = v := ⟨_, rfl⟩
 obtain ⟨v2, hv2⟩ : ∃ v, rtE (exC p t s) 2 = v := ⟨_, rfl⟩
 rw [hv1, hv2]
 have KR : ∀ (g : Nat) (W : World), Laid W → W.heap[g]? = some (.cells #[.string p, .string t, .string n0] 9 (0, 0)) → Calls Tryz.prog 79 #[.int .i64 (2 : Nat), .slice (some ⟨g, 0, none⟩) 3 3] W fun e w' => e = .returned (.tuple #[.string v1, .int .i64 v2]) ∧ Below W.heap.size W w' := fun g W hL hg => by
  have := jgq (exC p t s) 2 (some ⟨g, 0, none⟩) 3 (g + 1) W hL (Array.getElem?_eq_some_iff.1 hg).1 (.inr ⟨_, _, rfl, by omega, fun j x hj => by
   rw [Lib.cell_of_heap hg, Nat.zero_add]
   unfold exC at hj
   rw [hn0] at hj
   match j, hj with
   | 0, hj => cases hj; rfl
   | 1, hj => cases hj; rfl
   | 2, hj => cases hj; rfl
   | j + 3, hj => simp at hj⟩)
  rw [hv1, hv2] at this
  exact this
 have c0 : w1.cell? ⟨z, 0, none⟩ = some (.string p) := by rw [Lib.cell_of_heap hx]; rfl
 have c1 : w1.cell? ⟨z, 1, none⟩ = some (.string t) := by rw [Lib.cell_of_heap hx]; rfl
 have c2 : w1.cell? ⟨z, 2, none⟩ = some (.int .u64 s) := by rw [Lib.cell_of_heap hx]; rfl
 clear hx hn0 hv1 hv2
 go_enter Tryz.func81, Tryz.ntmps81
 go_wp2_with fail
 refine jaw 11 (fun S aa W => ∃ x4 x5 x6 x7 x8 x9 x10 x11 x12 x13 x14 : Value, aa = { tmps := #[Value.agg #[Value.string p, Value.string t, Value.int IntKind.u64 s], Value.pointer (some { block := z, off := 0 }), Value.string { data := #[] }, Value.int IntKind.i64 0, x4, x5, x6, x7, x8, x9, x10, x11, x12, x13, x14], defers := [] } ∧ Mu_exec w1 z v2 s n0 v1 p t S x4 x5 x6 x7 x8 x9 x10 x11 x12 x13 x14 W) (by kernel_rfl) (by kernel_rfl) ?_ ?_ ?_
 ·exact ⟨undef, undef, undef, undef, undef, undef, undef, undef, undef, undef, undef, rfl, ⟨(Below.refl _ w1).drew, nofun, nofun, nofun, nofun, nofun, nofun, nofun, nofun, nofun, nofun, nofun⟩⟩
 ·intro i o S aa W hin hi hun hJ hall K hK
  obtain ⟨x4, x5, x6, x7, x8, x9, x10, x11, x12, x13, x14, rfl, h⟩ := hJ
  have hlt : i < 11 := hin
  have hcase : i = 0 ∨ i = 1 ∨ i = 2 ∨ i = 3 ∨ i = 4 ∨ i = 5 ∨ i = 6 ∨ i = 7 ∨ i = 8 ∨ i = 9 ∨ i = 10 := by omega
  rcases hcase with rfl | rfl | rfl | rfl | rfl | rfl | rfl | rfl | rfl | rfl | rfl
  all_goals (have ho := (Option.some.inj hi).symm; subst ho; clear hi hlt hin)
  ·go_simp
   exact hK _ _ ⟨_, _, _, _, _, _, _, _, _, _, _, rfl, { h with f0 := fun _ => rfl }⟩
  ·have s_0 : S 0 = true := hall ⟨0, .data⟩ (by simp) rfl
   obtain rfl := h.f0 s_0
   have cW := (h.e.cell (p := ⟨z, 0, none⟩) hzw).trans c0
   go_simp
   exact hK _ _ ⟨_, _, _, _, _, _, _, _, _, _, _, rfl, { h with f1 := fun _ => rfl }⟩
  ·go_simp
   exact hK _ _ ⟨_, _, _, _, _, _, _, _, _, _, _, rfl, { h with f2 := fun _ => rfl }⟩
  ·have s_2 : S 2 = true := hall ⟨2, .data⟩ (by simp) rfl
   obtain rfl := h.f2 s_2
   have cW := (h.e.cell (p := ⟨z, 1, none⟩) hzw).trans c1
   go_simp
   exact hK _ _ ⟨_, _, _, _, _, _, _, _, _, _, _, rfl, { h with f3 := fun _ => rfl }⟩
  ·go_simp
   exact hK _ _ ⟨_, _, _, _, _, _, _, _, _, _, _, rfl, { h with f4 := fun _ => rfl }⟩
  ·have s_4 : S 4 = true := hall ⟨4, .data⟩ (by simp) rfl
   obtain rfl := h.f4 s_4
   have cW := (h.e.cell (p := ⟨z, 2, none⟩) hzw).trans c2
   go_simp
   exact hK _ _ ⟨_, _, _, _, _, _, _, _, _, _, _, rfl, { h with f5 := fun _ => rfl }⟩
  ·have s_5 : S 5 = true := hall ⟨5, .data⟩ (by simp) rfl
   obtain rfl := h.f5 s_5
   go_simp
   refine (KN0 W).mono ?_
   rintro e w5 ⟨rfl, hb5⟩
   have h1 := h.grow hb5
   exact hK _ _ ⟨_, _, _, _, _, _, _, _, _, _, _, rfl, { h1 with f6 := fun _ => rfl }⟩
  ·have s_1 : S 1 = true := hall ⟨1, .data⟩ (by simp) rfl
   obtain rfl := h.f1 s_1
   have s_3 : S 3 = true := hall ⟨3, .data⟩ (by simp) rfl
   obtain rfl := h.f3 s_3
   have s_6 : S 6 = true := hall ⟨6, .data⟩ (by simp) rfl
   obtain rfl := h.f6 s_6
   go_simp
   have h1 := h.grow ((Below.refl _ W).alloc (Nat.le_refl _) (.cells #[.string p, .string t, .string n0] 9))
   exact hK _ _ ⟨_, _, _, _, _, _, _, _, _, _, _, rfl, { h1 with f7 := fun _ => ⟨W.heap.size, rfl, h.e.size, by simp, World.alloc_heap_new W _⟩ }⟩
  ·have s_7 : S 7 = true := hall ⟨7, .data⟩ (by simp) rfl
   obtain ⟨g7, rfl, hg7, hh7, hc7⟩ := h.f7 s_7
   go_simp
   refine (KR g7 W (hl1.below h.e) hc7).mono ?_
   rintro e w5 ⟨rfl, hb5⟩
   have h1 := h.grow hb5
   exact hK _ _ ⟨_, _, _, _, _, _, _, _, _, _, _, rfl, { h1 with f8 := fun _ => rfl }⟩
  ·have s_8 : S 8 = true := hall ⟨8, .data⟩ (by simp) rfl
   obtain rfl := h.f8 s_8
   go_simp
   exact hK _ _ ⟨_, _, _, _, _, _, _, _, _, _, _, rfl, { h with f9 := fun _ => rfl }⟩
  ·have s_8 : S 8 = true := hall ⟨8, .data⟩ (by simp) rfl
   obtain rfl := h.f8 s_8
   go_simp
   exact hK _ _ ⟨_, _, _, _, _, _, _, _, _, _, _, rfl, { h with f10 := fun _ => rfl }⟩
 ·rintro S aa W hall ⟨x4, x5, x6, x7, x8, x9, x10, x11, x12, x13, x14, rfl, h⟩
  obtain rfl := h.f0 (hall 0 (by decide))
  obtain rfl := h.f1 (hall 1 (by decide))
  obtain rfl := h.f2 (hall 2 (by decide))
  obtain rfl := h.f3 (hall 3 (by decide))
  obtain rfl := h.f4 (hall 4 (by decide))
  obtain rfl := h.f5 (hall 5 (by decide))
  obtain rfl := h.f6 (hall 6 (by decide))
  obtain ⟨gg, rfl, hgg, hhg, hcg⟩ := h.f7 (hall 7 (by decide))
  obtain rfl := h.f8 (hall 8 (by decide))
  obtain rfl := h.f9 (hall 9 (by decide))
  obtain rfl := h.f10 (hall 10 (by decide))
  have BWD := h.e
  clear h hall
  simp only [List.drop_succ_cons, List.drop_zero]
  have B8 := A0.trans (BWD.mono (by omega))
  have HX : Hid _ := B8
  clear B8 BWD A0 hcg hgg hhg
  go_wp2
  go_ret2
  refine ⟨rfl, ?_⟩
  rw [HZ.out]
  exact HX.out
end Go.Proofs.YtoddangedbefgabGreatDoor
