/- Lemmas: Whether a branch is a leaf's: Check. The reference's Way and Check; the law SszChecks, walked. The reference's Sums and Clash; the law SszSound, walked. Clash. -/
import Derived.Test.YtmefanagpkbjeabDoorM1
import Derived.Test.YtmefanagpkbjeabDoorM10
import Derived.Test.YtmefanagpkbjeabDoorM11
import Derived.Test.YtmefanagpkbjeabDoorM12
import Derived.Test.YtmefanagpkbjeabDoorM13
import Derived.Test.YtmefanagpkbjeabDoorM14
import Derived.Test.YtmefanagpkbjeabDoorM15
import Derived.Test.YtmefanagpkbjeabDoorM16
import Derived.Test.YtmefanagpkbjeabDoorM17
import Derived.Test.YtmefanagpkbjeabDoorM18
import Derived.Test.YtmefanagpkbjeabDoorM2
import Derived.Test.YtmefanagpkbjeabDoorM3
import Derived.Test.YtmefanagpkbjeabDoorM4
import Derived.Test.YtmefanagpkbjeabDoorM6
import Derived.Test.YtmefanagpkbjeabDoorM7
import Derived.Test.YtmefanagpkbjeabDoorM8
import Derived.Test.YtmefanagpkbjeabDoorM9
import Derived.Test.YtmefanagpkbjeabDoorRows
namespace Go.Proofs.YtmefanagpkbjeabDoor
open Go.RowKit Go.Shelf Go.Sort
attribute [local go_sem] Oper.semAt_some

/-- What Check answers. -/
def chk (leaf : ByteArray) (xs : List ByteArray) (i : Nat) (root : ByteArray) : Bool := decide (xs.length ≤ 64 ∧ i < 2 ^ xs.length ∧ leaf.size = 32 ∧ root.size = 32 ∧ (∀ x ∈ xs, x.size = 32) ∧ clF i 0 leaf xs = root)
theorem chk_no {leaf : ByteArray} {xs : List ByteArray} {i : Nat} {root : ByteArray} (h : ¬ (xs.length ≤ 64 ∧ i < 2 ^ xs.length ∧ leaf.size = 32 ∧ root.size = 32)) : chk leaf xs i root = false := decide_eq_false fun hh => h ⟨hh.1, hh.2.1, hh.2.2.1, hh.2.2.2.1⟩

/-- What holds ahead of a round, and where one is left. -/
def CkJ (leaf : ByteArray) (xs : List ByteArray) (i p : Nat) (w1 : World) (mk : LoopState → Option Code → Loop) (k : Nat) (W : World) : Prop := Rc (p + 3) (mk .ready none) W ∧ Below (p + 1) w1 W ∧ (∀ x ∈ xs.take k, x.size = 32) ∧ W.heap[p + 1]? = some (.cells #[.string (clF i 0 leaf (xs.take k))] 9 (0, 0))
def CkX (xs : List ByteArray) (p : Nat) (w1 : World) (mk : LoopState → Option Code → Loop) (_ : Nat) (W : World) : Prop := (∃ id, Rc (p + 3) (mk .done (some (.exit id))) W ∧ id = 0) ∧ Below (p + 1) w1 W ∧ (∃ x ∈ xs, x.size ≠ 32) ∧ W.heap[p + 1]? = some (.cells #[.string ⟨#[]⟩] 9 (0, 0))
theorem and_bit8 (k : Nat) (h : k < 18446744073709551616) : bits .and .u64 (k : Int) 1 = ((k % 2 : Nat) : Int) := by
  have e : (BitVec.ofInt 64 (k : Int) &&& BitVec.ofInt 64 1).toNat = k % 2 := by
    rw [BitVec.toNat_and]
    have a1 : (BitVec.ofInt 64 (k : Int)).toNat = k := by
      rw [BitVec.toNat_ofInt]; omega
    have a2 : (BitVec.ofInt 64 1).toNat = 1 := by decide
    rw [a1, a2, Nat.and_one_is_mod]
  show IntKind.u64.wrap ((BitVec.ofInt 64 (k : Int) &&& BitVec.ofInt 64 1).toNat : Int) = _
  rw [e, IntKind.wrap_u64]
  omega

set_option maxRecDepth 100000 in
set_option maxHeartbeats 2000000 in
theorem check_any (leaf : ByteArray) (xs : List ByteArray) (i : Nat) (hi : i < 18446744073709551616) (root : ByteArray) (a : Option Addr) (c n : Nat) (w : World) (hl : Laid w) (hn : n ≤ w.heap.size) (hp : slS n w a xs) :
    Calls Tryd.prog 14 #[.string leaf, .slice a xs.length c, .int .u64 (i : Int), .string root] w fun e w' => e = .returned (.bool (chk leaf xs i root)) ∧ Below w.heap.size w w' := by
  obtain ⟨N, hN⟩ : ∃ N, xs.length = N := ⟨_, rfl⟩
  rw [hN]
  refine (callsIn_wide (n := 9)).1 ?_
  refine callsIn_of_wp_marks Tryd.func14 rfl trivial ?_ rfl
  refine wpIn_wide.2 ?_
  simp only [Tryd.ntmps14, List.size_toArray, List.length_cons, List.length_nil, Nat.reduceAdd, Nat.reduceSub, Array.replicate_succ, Array.replicate_zero, List.push_toArray, List.append_toArray, List.nil_append, List.cons_append]
  go_wp2_with fail
  refine wp_scope_straight ?_
  obtain ⟨p, hp0⟩ : ∃ p, w.heap.size = p := ⟨_, rfl⟩
  have HP : Hid _ := hp0
  refine wpOf (fun W => Below p w W ∧ W.heap.size = p + 1 ∧ W.heap[p]? = some (.cells #[.int .u64 (i : Int)] 22 (0, 0))) ?_ ?_
  · have t2 := World.alloc_heap_new w (.cells #[.int .u64 (i : Int)] 22)
    rw [hp0] at t2
    refine ⟨?_, by simp [hp0], t2⟩
    rw [← hp0]
    exact (Below.refl _ w).alloc (Nat.le_refl _) _
  rintro V ⟨BV, hszV, hb0⟩
  rw [hp0]
  have hnp : n ≤ p := by rw [← hp0]; exact hn
  clear hp0
  have k0 : V.cell? ⟨p, 0, none⟩ = some (.int .u64 (i : Int)) := by rw [Lib.cell_of_heap hb0]; rfl
  have HNO : Hid (¬ (N ≤ 64 ∧ i < 2 ^ N ∧ leaf.size = 32 ∧ root.size = 32) → chk leaf xs i root = false) := fun h => chk_no (by rw [hN]; exact h)
  by_cases h64 : 64 < N
  · have l0 : (64 : Int) < N := by omega
    have hno := HNO.out (by omega)
    have HX : Hid _ := hno
    clear hno
    go_wp2
    refine ⟨.bool false, by simp [results, Tryd.results14, go_sem], by rw [HX.out], ?_⟩
    rw [HP.out]
    exact BV
  · have l0 : ¬ (64 : Int) < N := by omega
    have hmin : min N 64 = N := by omega
    have l64 : (N : Int) ≤ 64 := by omega
    have KC1 := isChunk_any leaf
    have KC2 := isChunk_any root
    obtain ⟨q, hq⟩ : ∃ q, i / 2 ^ N = q := ⟨_, rfl⟩
    have hqi : (i : Int) / 2 ^ N = (q : Int) := by rw [← hq]; simp
    by_cases hiq : 0 < q
    · have hno := HNO.out (fun hh => by rw [Nat.div_eq_of_lt hh.2.1] at hq; omega)
      have HX : Hid _ := hno
      have l1 : ¬ (q : Int) = 0 := by omega
      have l2 : ((q : Int) == 0) = false := by rw [beq_eq_false_iff_ne]; exact l1
      clear hno hq
      go_wp2
      refine ⟨.bool false, by simp [results, Tryd.results14, go_sem], by rw [HX.out], ?_⟩
      rw [HP.out]
      exact BV
    · obtain rfl : q = 0 := by omega
      have hiN : i < 2 ^ N := by
        rcases Nat.lt_or_ge i (2 ^ N) with h | h
        · exact h
        · have := Nat.div_pos h (Nat.two_pow_pos N)
          omega
      have hqi0 : (i : Int) / 2 ^ N = 0 := by rw [hqi]; rfl
      by_cases hlf : leaf.size = 32
      · rw [decide_eq_true hlf] at KC1
        by_cases hrt : root.size = 32
        · rw [decide_eq_true hrt] at KC2
          clear hq HNO
          go_wp2_with fail
          refine (KC1 _).mono ?_
          rintro e w1 ⟨rfl, rfl⟩
          go_wp2_with fail
          refine (KC2 _).mono ?_
          rintro e w1 ⟨rfl, rfl⟩
          clear KC1 KC2
          go_wp2_with fail
          refine wp_label ?_
          go_wp2_with fail
          refine (all_any8 a N c _).mono ?_
          rintro e w2 ⟨rfl, hw2⟩
          have hF2 : Below (p + 1) w1 w2 ∧ w2.heap.size = p + 3 ∧ w2.heap[p + 1]? = some (.cells #[.string leaf] 9 (0, 0)) ∧ w2.heap[p + 2]? = some (.cells #[.slice a N c] 27 (0, 0)) := by
            have t2 := alloc_two w1 (.cells #[.string leaf] 9) (.cells #[.slice a N c] 27)
            rw [← hw2, hszV] at t2
            refine ⟨?_, by rw [hw2]; simp; omega, t2.1, t2.2⟩
            rw [hw2, ← hszV]
            exact ((Below.refl _ w1).alloc (Nat.le_refl _) _).alloc (by simp) _
          obtain ⟨B2, hz2', hb1, hb2⟩ := hF2
          have hsz' : (w1.alloc (.cells #[.string leaf] 9)).heap.size = p + 2 := by simp [hszV]
          rw [hsz']
          have HV : Hid _ := hszV
          have l8 : Laid w1 := hl.below (by rw [HP.out]; exact BV)
          have s8 : slS n w1 a xs := slS_below (BV.mono hnp) hp
          have h1p : 1 < p := by have := hl.k.z; have := HP.out; omega
          clear hw2 hsz' hszV k0
          go_wp2_with fail
          refine (wpIn_wide (n := 9)).1 ?_
          refine range_to (by omega) (gf := 37) (lb := #[.pointer (some ⟨p + 2, 0, none⟩)]) rfl (enters_of Tryd.func37 (by kernel_rfl) rfl) ?_
          intro fn mk W1 hmk BW1 hszW hRc
          rw [hz2'] at hmk BW1 hszW hRc ⊢
          have cX : W1.cell? ⟨p + 2, 0, none⟩ = some (.slice a xs.length c) := by rw [hN, BW1.cell (p := ⟨p + 2, 0, none⟩) (by show p + 2 < p + 3; omega), Lib.cell_of_heap hb2]; rfl
          have BWp : Below (p + 1) w1 W1 := B2.trans (BW1.mono (by omega))
          have sW1 : slZ (p + 1) (p + 2) (p + 4) (p + 5) W1 a xs := by
            rcases slS_below (BWp.mono (by omega)) s8 with e | ⟨b, o, k1, k2, k3⟩
            · exact .inl e
            · exact .inr ⟨b, o, k1, by omega, by omega, ⟨by omega, by omega⟩, k3⟩
          refine (all1_in 8 (p + 4) (p + 1) (p + 2) (p + 5) (p + 2) xs (by omega) a c (CkJ leaf xs i p w1 mk) (CkX xs p w1 mk) ?hY W1 cX sW1 ⟨hRc, BWp, fun x hx => by simp at hx, by rw [List.take_zero]; exact (BW1.block (p + 1) (by omega)).trans hb1⟩).mono ?_
          case hY =>
            rintro m k x W ⟨hr, hB, h32, hv⟩ hx
            refine yield_to mk hmk hr rfl ?_
            gi_wp2
            intro U hrU hkU
            have hlt := hr.lt
            have hsU := hkU.size
            have BU := Kq.low hB (by omega) (by omega) hkU
            have hvU := (hkU.at (k := p + 1) (by omega) (by omega)).trans hv
            have KU : Kz (p + 1) (p + 2) (p + 4) W U := ⟨hkU.size, fun b hb _ h => hkU.at hb (by omega)⟩
            have lU : Laid U := l8.below (by rw [HV.out]; exact BU)
            have hiU := (BU.block p (by omega)).trans hb0
            have f0 : U.cell? ⟨p, 0, none⟩ = some (.int .u64 (i : Int)) := by rw [Lib.cell_of_heap hiU]; rfl
            have hpU : p + 1 < U.heap.size := by omega
            have htk : xs.take (k + 1) = xs.take k ++ [x] := by rw [List.take_add_one, hx]; rfl
            have hlk : (xs.take k).length = k := by have := (List.getElem?_eq_some_iff.1 hx).1; rw [List.length_take]; omega
            have hyz : (clF i 0 leaf (xs.take k)).size = 32 := clF_size i _ 0 leaf hlf
            have HT : Hid (clF i 0 leaf (xs.take (k + 1)) = if i / 2 ^ k % 2 = 0 then hs (clF i 0 leaf (xs.take k)) x else hs x (clF i 0 leaf (xs.take k))) := by
              show _ = _
              rw [htk, clF_snoc, Nat.zero_add, hlk]
            obtain ⟨y, hy⟩ : ∃ y, clF i 0 leaf (xs.take k) = y := ⟨_, rfl⟩
            rw [hy] at hvU hyz HT
            have f1 : U.cell? ⟨p + 1, 0, none⟩ = some (.string y) := by rw [Lib.cell_of_heap hvU]; rfl
            have fz : ∀ o, U.frozen? ⟨p + 1, o, none⟩ = false := fun o => by simp [World.frozen?, hvU]
            have fin : ∀ (X : World) (z : ByteArray), Below U.heap.size U X → Rc (p + 3) (mk .busy none) (X.setCell ⟨p + 1, 0, none⟩ (.string z)) ∧ Below (p + 1) w1 (X.setCell ⟨p + 1, 0, none⟩ (.string z)) ∧ (X.setCell ⟨p + 1, 0, none⟩ (.string z)).heap[p + 1]? = some (.cells #[.string z] 9 (0, 0)) ∧ Kz (p + 1) (p + 2) (p + 4) W (X.setCell ⟨p + 1, 0, none⟩ (.string z)) := fun X z hX => by
              have hrX := hrU.below hX
              exact ⟨⟨((Kq.put X (p + 1) 0 _).at hrX.lt (by omega)).trans hrX.1, ((Kq.put X (p + 1) 0 _).at (by have := hrX.lt; omega) (by omega)).trans hrX.2⟩,
                below_setCells' (b := p + 1) (Nat.le_refl _) [.string z] 0 _ (BU.trans (hX.mono (by omega))),
                heap_setCell_self ((hX.block (p + 1) hpU).trans hvU) 0 (.string z), (KU.trans (Kz.below hX)).trans (Kz.set X 0 _ (Nat.le_refl _) (by omega))⟩
            have FIN : Hid (∀ (X : World) (z : ByteArray), _ → _) := fin
            have KI := isChunk_any x
            have hmk2 : min k 64 = k := by have := (List.getElem?_eq_some_iff.1 hx).1; omega
            obtain ⟨M, hM⟩ : ∃ M, i / 2 ^ k = M := ⟨_, rfl⟩
            have hMq : M < 18446744073709551616 := by rw [← hM]; exact Nat.lt_of_le_of_lt (Nat.div_le_self _ _) hi
            have hMi : (i : Int) / 2 ^ k = (M : Int) := by rw [← hM]; simp
            have hand := and_bit8 M hMq
            rw [hM] at HT
            have HVU : Hid _ := hvU
            clear hM fin hr hB hv hkU KU hvU htk hlk hrU BU
            by_cases hx32 : x.size = 32
            · rw [decide_eq_true hx32] at KI
              have h32' : ∀ x' ∈ xs.take (k + 1), x'.size = 32 := fun x' hx' => by
                rw [List.take_add_one, hx] at hx'
                rcases List.mem_append.1 hx' with h | h
                · exact h32 x' h
                · simp at h; rw [h]; exact hx32
              have H32 : Hid _ := h32'
              clear h32'
              by_cases hev : M % 2 = 0
              · rw [hev] at hand
                rw [if_pos hev] at HT
                have KS : Hid (∀ (g : Nat) (w : World), _) := fun (g : Nat) (w : World) (hl : Laid w) (hg : g < w.heap.size) h0 h1 => sum_two y x _ (join_pair _ _) (by omega) (by omega) g w hl hg h0 h1
                gi_wp2
                refine ⟨trivial, fun h => (by cases h), (CallsIn.inRound _ (callsIn_wide.2 (KI U))).mono ?_⟩
                rintro e w3 ⟨rfl, rfl⟩
                gi_wp2
                have A3 : Below w3.heap.size w3 (w3.alloc (.cells #[.string y, .string x] 9)) := (Below.refl _ w3).alloc (Nat.le_refl _) _
                refine ⟨trivial, fun h => (by cases h), (CallsIn.inRound _ (callsIn_wide.2 (KS.out w3.heap.size _ (lU.below A3) (by simp) (by simp [go_sem]) (by simp [go_sem])))).mono ?_⟩
                rintro e w4 ⟨rfl, B4⟩
                have BX := belowStep A3 A3.size B4
                have g1 := (BX.cell (p := ⟨p + 1, 0, none⟩) hpU).trans f1
                have gz : ∀ o, w4.frozen? ⟨p + 1, o, none⟩ = false := fun o => (BX.frozen (p := ⟨p + 1, o, none⟩) hpU).trans (fz o)
                clear KS A3 B4 f0 f1 fz hand KI
                gi_wp2
                obtain ⟨q1, q2, q3, q4⟩ := FIN.out w4 (sumOf (y ++ x)) BX
                refine And.intro q1 ?_
                intro X hrX hkX
                have hlt2 := q1.lt
                refine .inl ⟨rfl, ⟨hrX, Kq.low q2 (by omega) (by omega) hkX, H32.out, ?_⟩, q4.trans ⟨hkX.size, fun b hb _ h => hkX.at hb (by omega)⟩⟩
                rw [HT.out]
                exact (hkX.at (by omega) (by omega)).trans q3
              · obtain hod : M % 2 = 1 := by omega
                rw [hod] at hand
                rw [if_neg hev] at HT
                have KS : Hid (∀ (g : Nat) (w : World), _) := fun (g : Nat) (w : World) (hl : Laid w) (hg : g < w.heap.size) h0 h1 => sum_two x y _ (join_pair _ _) (by omega) (by omega) g w hl hg h0 h1
                gi_wp2
                refine ⟨trivial, fun h => (by cases h), (CallsIn.inRound _ (callsIn_wide.2 (KI U))).mono ?_⟩
                rintro e w3 ⟨rfl, rfl⟩
                gi_wp2
                have A3 : Below w3.heap.size w3 (w3.alloc (.cells #[.string x, .string y] 9)) := (Below.refl _ w3).alloc (Nat.le_refl _) _
                refine ⟨trivial, fun h => (by cases h), (CallsIn.inRound _ (callsIn_wide.2 (KS.out w3.heap.size _ (lU.below A3) (by simp) (by simp [go_sem]) (by simp [go_sem])))).mono ?_⟩
                rintro e w4 ⟨rfl, B4⟩
                have BX := belowStep A3 A3.size B4
                have g1 := (BX.cell (p := ⟨p + 1, 0, none⟩) hpU).trans f1
                have gz : ∀ o, w4.frozen? ⟨p + 1, o, none⟩ = false := fun o => (BX.frozen (p := ⟨p + 1, o, none⟩) hpU).trans (fz o)
                clear KS A3 B4 f0 f1 fz hand KI
                gi_wp2
                obtain ⟨q1, q2, q3, q4⟩ := FIN.out w4 (sumOf (x ++ y)) BX
                refine And.intro q1 ?_
                intro X hrX hkX
                have hlt2 := q1.lt
                refine .inl ⟨rfl, ⟨hrX, Kq.low q2 (by omega) (by omega) hkX, H32.out, ?_⟩, q4.trans ⟨hkX.size, fun b hb _ h => hkX.at hb (by omega)⟩⟩
                rw [HT.out]
                exact (hkX.at (by omega) (by omega)).trans q3
            · rw [decide_eq_false hx32] at KI
              gi_wp2
              refine ⟨trivial, fun h => (by cases h), (CallsIn.inRound _ (callsIn_wide.2 (KI U))).mono ?_⟩
              rintro e w3 ⟨rfl, rfl⟩
              gi_wp2
              obtain ⟨q1, q2, q3, q4⟩ := FIN.out w3 ⟨#[]⟩ (Below.refl _ _)
              refine And.intro q1 ?_
              intro X hrX hkX
              have hlt2 := q1.lt
              exact .inr ⟨rfl, ⟨0, hrX, rfl⟩, Kq.low q2 (by omega) (by omega) hkX, ⟨x, List.mem_of_getElem? hx, hx32⟩, (hkX.at (by omega) (by omega)).trans q3⟩
          rintro e W2 ⟨he, ⟨hr, hB, h32, hv⟩ | ⟨k, hkk, ⟨id, hr, rfl⟩, hB, hex, hv⟩⟩
          · refine ⟨he, .inl ⟨hr, ?_⟩⟩
            rw [List.take_of_length_le (by omega)] at h32 hv
            have HC : Hid (chk leaf xs i root = decide (clF i 0 leaf xs = root)) := by
              show _ = _
              rw [Bool.eq_iff_iff, chk, decide_eq_true_iff, decide_eq_true_iff]
              exact ⟨fun h => h.2.2.2.2.2, fun h => ⟨by omega, by rw [hN]; exact hiN, hlf, hrt, h32, h⟩⟩
            obtain ⟨y, hy⟩ : ∃ y, clF i 0 leaf xs = y := ⟨_, rfl⟩
            rw [hy] at hv HC
            intro U hdU hkU
            have hlt := hr.lt
            have hvU := (hkU.at (k := p + 1) (by omega) (by omega)).trans hv
            have BU := Kq.low hB (by omega) (by omega) hkU
            have f1 : U.cell? ⟨p + 1, 0, none⟩ = some (.string y) := by rw [Lib.cell_of_heap hvU]; rfl
            have hdl : p + 3 < U.heap.size := (Array.getElem?_eq_some_iff.1 hdU).1
            clear hr hv hvU hkU hB
            by_cases hyr : y = root
            · subst hyr
              go_wp2
              refine ⟨by simp, .inl ⟨_, _, rfl, run_takeDeferred hdU, ?_⟩⟩
              refine ⟨.bool true, by simp [results, Tryd.results14, go_sem], by rw [HC.out]; simp, ?_⟩
              rw [HP.out]
              exact BV.trans ((below_put BU (by omega) (by omega) _).mono (by omega))
            · have hne : (y.toList == root.toList) = false := by rw [beq_eq_false_iff_ne]; exact fun e => hyr (toList_inj e)
              go_wp2
              refine ⟨by simp, .inl ⟨_, _, rfl, run_takeDeferred hdU, ?_⟩⟩
              refine ⟨.bool false, by simp [results, Tryd.results14, go_sem], by rw [HC.out, decide_eq_false hyr], ?_⟩
              rw [HP.out]
              exact BV.trans ((below_put BU (by omega) (by omega) _).mono (by omega))
          · refine ⟨he, .inr ⟨.exit 0, hr, ?_⟩⟩
            have HC : Hid (chk leaf xs i root = false) := decide_eq_false fun h => by
              obtain ⟨x, hx, hx2⟩ := hex
              exact hx2 (h.2.2.2.2.1 x hx)
            intro U hdU hkU
            have hlt := hr.lt
            have hvU := (hkU.at (k := p + 1) (by omega) (by omega)).trans hv
            have BU := Kq.low hB (by omega) (by omega) hkU
            have f1 : U.cell? ⟨p + 1, 0, none⟩ = some (.string ⟨#[]⟩) := by rw [Lib.cell_of_heap hvU]; rfl
            have hdl : p + 3 < U.heap.size := (Array.getElem?_eq_some_iff.1 hdU).1
            have hre : root.toList ≠ [] := fun e => by
              have : root.size = 0 := by
                rw [ByteArray.toList_eq] at e
                show root.data.size = 0
                rw [← Array.length_toList, e]
                rfl
              omega
            have hne : root.toList.isEmpty = false := by cases h : root.toList with
              | nil => exact absurd h hre
              | cons _ _ => rfl
            clear hr hv hvU hkU hB
            gi_wp2
            go_wp2
            refine ⟨by simp, .inl ⟨_, _, rfl, run_takeDeferred hdU, ?_⟩⟩
            refine ⟨.bool false, by simp [results, Tryd.results14, go_sem], by rw [HC.out], ?_⟩
            rw [HP.out]
            exact BV.trans ((below_put BU (by omega) (by omega) _).mono (by omega))
        · rw [decide_eq_false hrt] at KC2
          have hno := HNO.out (by omega)
          have HX : Hid _ := hno
          clear hno hq
          go_wp2_with fail
          refine (KC1 _).mono ?_
          rintro e w1 ⟨rfl, rfl⟩
          go_wp2_with fail
          refine (KC2 _).mono ?_
          rintro e w1 ⟨rfl, rfl⟩
          go_wp2
          refine ⟨.bool false, by simp [results, Tryd.results14, go_sem], by rw [HX.out], ?_⟩
          rw [HP.out]
          exact BV
      · rw [decide_eq_false hlf] at KC1
        have hno := HNO.out (by omega)
        have HX : Hid _ := hno
        clear hno hq
        go_wp2_with fail
        refine (KC1 _).mono ?_
        rintro e w1 ⟨rfl, rfl⟩
        go_wp2
        refine ⟨.bool false, by simp [results, Tryd.results14, go_sem], by rw [HX.out], ?_⟩
        rw [HP.out]
        exact BV
end Go.Proofs.YtmefanagpkbjeabDoor
namespace Go.Proofs.YtmefanagpkbjeabDoor
open Go.RowKit Go.Shelf Go.Sort

/-- The texts that are summed up on a way. -/
def wyF (i : Nat) : Nat → ByteArray → List ByteArray → List ByteArray
  | _, _, [] => []
  | k, x, y :: r => (if i / 2 ^ k % 2 = 0 then x ++ y else y ++ x) :: wyF i (k + 1) (if i / 2 ^ k % 2 = 0 then hs x y else hs y x) r
theorem wyF_len (i : Nat) : ∀ (r : List ByteArray) (k : Nat) (x : ByteArray), (wyF i k x r).length = r.length
  | [], _, _ => rfl
  | y :: r, k, x => by rw [wyF, List.length_cons, List.length_cons, wyF_len i r]
theorem wyF_snoc (i : Nat) (y : ByteArray) : ∀ (r : List ByteArray) (k : Nat) (x : ByteArray), wyF i k x (r ++ [y]) = wyF i k x r ++ [if i / 2 ^ (k + r.length) % 2 = 0 then clF i k x r ++ y else y ++ clF i k x r]
  | [], k, x => rfl
  | z :: r, k, x => by
    show _ :: wyF i (k + 1) _ (r ++ [y]) = _
    rw [wyF_snoc i y r (k + 1), List.length_cons, show k + 1 + r.length = k + (r.length + 1) by omega]
    rfl
/-- Way answers the texts and what comes out. -/
def WyR (i : Nat) (leaf : ByteArray) (xs : List ByteArray) (e : Ending) (w' : World) : Prop := ∃ a c, e = .returned (.tuple #[.slice a (wyF i 0 leaf xs).length c, .string (clF i 0 leaf xs)]) ∧ (wyF i 0 leaf xs).length ≤ c ∧ slS w'.heap.size w' a (wyF i 0 leaf xs)

set_option maxRecDepth 20000 in
set_option maxHeartbeats 4000000 in
theorem rway_any (leaf : ByteArray) (hlf : leaf.size = 32) (xs : List ByteArray) (h64 : xs.length ≤ 64) (h32 : ∀ x ∈ xs, x.size = 32) (i : Nat) (hi : i < 18446744073709551616) (a : Option Addr) (c n : Nat) (w : World) (hn : n ≤ w.heap.size) (hp : slS n w a xs) :
    Calls Tryd.prog 7 #[.string leaf, .slice a xs.length c, .int .u64 (i : Int)] w fun e w' => WyR i leaf xs e w' ∧ Below w.heap.size w w' := by
  obtain ⟨i0, hi0, hz0, hz1, hz2⟩ := info_parts info_str8
  obtain ⟨N, hN⟩ : ∃ N, xs.length = N := ⟨_, rfl⟩
  have HN : Hid (xs.length = N) := hN
  have H32 : Hid (∀ x ∈ xs, x.size = 32) := h32
  rw [hN] at h64 ⊢
  clear hN h32
  obtain ⟨z, hz⟩ : ∃ z, w.heap.size = z := ⟨_, rfl⟩
  have B0 : Below z w w := Below.refl _ _
  rw [hz] at hn ⊢
  have hz' : z ≤ w.heap.size := by omega
  clear hz
  go_enter Tryd.func7, Tryd.ntmps7
  go_wp2_with fail
  go_loopg [8, 9, 10, 11] N (fun gk v x i' s' wr => ∃ (k : Nat) (y : ByteArray), k + gk = N ∧ i' = .int .i64 (k : Int) ∧ x = .string y ∧ Hid (y = clF i 0 leaf (xs.take k)) ∧ y.size = 32 ∧ Below z w wr ∧ z ≤ wr.heap.size ∧ wr.ownsRow z 9 1 v k ((wyF i 0 leaf (xs.take k)).map .string))
  case atStart => exact ⟨0, leaf, by omega, rfl, rfl, rfl, hlf, B0, hz', World.ownsRow_nil _ _ _ _⟩
  case round =>
    clear B0
    obtain ⟨k, y, hk, rfl, rfl, HY, hyz, BW, hzw, hown⟩ := hrel
    have hr3 : ∀ b, u8.ownBlock = some b → z ≤ b := fun b hb => (hown.lt b hb).1
    by_cases hlt : k < N
    · have l0 : (k : Int) < N := by omega
      obtain ⟨x, hx⟩ : ∃ x, xs[k]? = some x := ⟨xs[k]'(by have := HN.out; omega), List.getElem?_eq_getElem (by have := HN.out; omega)⟩
      obtain ⟨b, o, rfl, hb, c0⟩ := slS_at hp k x hx
      replace c0 := (BW.cell (p := ⟨b, _, none⟩) (by show b < z; omega)).trans c0
      have hx32 := H32.out x (List.mem_of_getElem? hx)
      have wk : IntKind.i64.wrap ((k : Int) + 1) = ((k + 1 : Nat) : Int) := by rw [IntKind.wrap_i64]; omega
      have hmk2 : min k 64 = k := by omega
      obtain ⟨M, hM⟩ : ∃ M, i / 2 ^ k = M := ⟨_, rfl⟩
      have hMq : M < 18446744073709551616 := by rw [← hM]; exact Nat.lt_of_le_of_lt (Nat.div_le_self _ _) hi
      have hMi : (i : Int) / 2 ^ k = (M : Int) := by rw [← hM]; simp
      have hand := and_bit8 M hMq
      have htk : xs.take (k + 1) = xs.take k ++ [x] := by rw [List.take_add_one, hx]; rfl
      have hlk : (xs.take k).length = k := by rw [List.length_take, HN.out]; omega
      have HT : Hid (clF i 0 leaf (xs.take (k + 1)) = (if M % 2 = 0 then hs y x else hs x y) ∧ wyF i 0 leaf (xs.take (k + 1)) = wyF i 0 leaf (xs.take k) ++ [if M % 2 = 0 then y ++ x else x ++ y]) := by
        show _ ∧ _
        rw [htk, clF_snoc, wyF_snoc, Nat.zero_add, hlk, hM, HY.out]
        exact ⟨rfl, rfl⟩
      have z1 : ¬ 9223372036854775807 < y.size + x.size := by omega
      have z2 : ¬ 9223372036854775807 < x.size + y.size := by omega
      have K1 : Hid (∀ w : World, _) := fun w : World => rsum_any (y ++ x) (by rw [ByteArray.size_append]; omega) w
      have K2 : Hid (∀ w : World, _) := fun w : World => rsum_any (x ++ y) (by rw [ByteArray.size_append]; omega) w
      have FIN : Hid (∀ (s : ByteArray) (v' : Value) (w3 w4 : World), (s = if M % 2 = 0 then y ++ x else x ++ y) → w3.ownsRow z 9 1 v' (k + 1) ((wyF i 0 leaf (xs.take k)).map .string ++ [.string s]) → (wr.alloc (.cells #[.string s] 9)).grownBy w3 u8.ownBlock → Below w3.heap.size w3 w4 →
          (∃ (k' : Nat) (y' : ByteArray), k' + (gk - 1) = N ∧ Value.int .i64 (((k : Nat) : Int) + 1) = .int .i64 (k' : Int) ∧ Value.string (sumOf s) = .string y' ∧ Hid (y' = clF i 0 leaf (xs.take k')) ∧ y'.size = 32 ∧ Below z w w4 ∧ z ≤ w4.heap.size ∧ w4.ownsRow z 9 1 v' k' ((wyF i 0 leaf (xs.take k')).map .string))) := fun s v' w3 w4 hs0 ho hg hb4 => by
        have hz3 : z ≤ w3.heap.size := Nat.le_trans (by simp; omega) hg.size
        refine ⟨k + 1, sumOf s, by omega, by congr 1, rfl, ?_, sum_size _, belowStep ((BW.alloc hzw _).grown hg (by simp; omega) (fun b hb => hr3 b hb)) hz3 hb4, Nat.le_trans hz3 hb4.size, ?_⟩
        · show _ = _
          rw [HT.out.1, hs0]
          split <;> rfl
        · rw [HT.out.2, ← hs0, List.map_append]
          exact owns_below8 ho hb4
      clear htk hlk hM
      by_cases hev : M % 2 = 0
      · rw [hev] at hand
        have HS : Hid (y ++ x = if M % 2 = 0 then y ++ x else x ++ y) := by show _ = _; rw [if_pos hev]
        clear HT
        go_wp2_with (at_builtin; refine wpList_append_own _ rfl _ _ 27 rfl z 9 i0 (.string ⟨#[]⟩) 1 16 Tryd.underlying27 hi0 hz0 hz1 hz2 rfl (by decide) _ _ _ rfl (owns_below8 hown ((Below.refl _ wr).alloc (Nat.le_refl _) _)) ⟨wr.heap.size, 0, none⟩ 1 1 [.string (y ++ x)] rfl rfl (one_new' _ _ _) (by intro u hu; simp at hu; subst hu; rfl) (by unfold maxLen; omega) (by omega) (by simp; omega) ?_; intro v' w3 hown' hgrow hiff; clear hiff)
        refine (K1.out _).mono ?_
        rintro e w4 ⟨rfl, B4⟩
        have HF : Hid _ := FIN.out (y ++ x) v' w3 w4 HS.out hown' hgrow B4
        clear hown' hgrow B4 FIN
        go_wp2
        go_roundg (gk - 1)
        case measure => omega
        case rel => exact HF.out
      · have hod : M % 2 = 1 := by omega
        rw [hod] at hand
        have HS : Hid (x ++ y = if M % 2 = 0 then y ++ x else x ++ y) := by show _ = _; rw [if_neg hev]
        clear HT
        go_wp2_with (at_builtin; refine wpList_append_own _ rfl _ _ 27 rfl z 9 i0 (.string ⟨#[]⟩) 1 16 Tryd.underlying27 hi0 hz0 hz1 hz2 rfl (by decide) _ _ _ rfl (owns_below8 hown ((Below.refl _ wr).alloc (Nat.le_refl _) _)) ⟨wr.heap.size, 0, none⟩ 1 1 [.string (x ++ y)] rfl rfl (one_new' _ _ _) (by intro u hu; simp at hu; subst hu; rfl) (by unfold maxLen; omega) (by omega) (by simp; omega) ?_; intro v' w3 hown' hgrow hiff; clear hiff)
        refine (K2.out _).mono ?_
        rintro e w4 ⟨rfl, B4⟩
        have HF : Hid _ := FIN.out (x ++ y) v' w3 w4 HS.out hown' hgrow B4
        clear hown' hgrow B4 FIN
        go_wp2
        go_roundg (gk - 1)
        case measure => omega
        case rel => exact HF.out
    · obtain rfl : k = N := by omega
      have l0 : ¬ (k : Int) < k := by omega
      rw [List.take_of_length_le (by rw [HN.out]; exact Nat.le_refl _)] at hown
      have hlen : (wyF i 0 leaf xs).length = k := by rw [wyF_len]; exact HN.out
      rw [← hlen] at hown
      obtain ⟨a', c', rfl, hsl⟩ := slS_owns hown
      have hc := owns_cap hown
      have HF : Hid (_ ∧ _ ∧ _ ∧ _) := ⟨hc, hsl, BW, (show y = clF i 0 leaf xs by rw [HY.out, List.take_of_length_le (by rw [HN.out]; exact Nat.le_refl _)])⟩
      clear hown hsl BW hc
      go_wp2
      refine bodyPost_ret (v := .tuple #[.slice a' k c', .string y]) (by simp [results, Tryd.results7, go_sem]) rfl ⟨⟨a', c', ?_, HF.out.1, HF.out.2.1⟩, HF.out.2.2.1⟩
      rw [HF.out.2.2.2, hlen]

end Go.Proofs.YtmefanagpkbjeabDoor
namespace Go.Proofs.YtmefanagpkbjeabDoor
open Go.RowKit Go.Shelf Go.Sort

/-- The texts that are summed up at a height; all of them. -/
def smL (xs : List ByteArray) (D up : Nat) : List ByteArray := (List.range (2 ^ (D - up) / 2)).map fun j => lf (lvs xs) up (2 * j) ++ lf (lvs xs) up (2 * j + 1)
def smA (xs : List ByteArray) (D : Nat) : Nat → List ByteArray
  | 0 => []
  | k + 1 => smA xs D k ++ smL xs D k
/-- Two texts of a list are unlike, and have one sum. -/
def ClashP (l : List ByteArray) : Prop := ∃ s ∈ l, ∃ t ∈ l, s ≠ t ∧ sumOf s = sumOf t
theorem smA_mem (xs : List ByteArray) (D : Nat) : ∀ n k j, k < n → j < 2 ^ (D - k) / 2 → lf (lvs xs) k (2 * j) ++ lf (lvs xs) k (2 * j + 1) ∈ smA xs D n
  | 0, k, _, h, _ => by omega
  | n + 1, k, j, h, hj => by
    show _ ∈ smA xs D n ++ smL xs D n
    by_cases e : k = n
    · subst e
      exact List.mem_append_right _ (List.mem_map.2 ⟨j, List.mem_range.2 hj, rfl⟩)
    · exact List.mem_append_left _ (smA_mem xs D n k j (by omega) hj)
theorem app_inj {a b c d : ByteArray} (h : a ++ b = c ++ d) (hz : a.size = c.size) : a = c ∧ b = d := by
  have h1 : a.data.toList ++ b.data.toList = c.data.toList ++ d.data.toList := by
    have := congrArg (fun t : ByteArray => t.data.toList) h
    simpa using this
  have h2 : a.data.toList.length = c.data.toList.length := by simpa using hz
  obtain ⟨e1, e2⟩ := List.append_inj h1 h2
  have f : ∀ x y : ByteArray, x.data.toList = y.data.toList → x = y := fun x y e => by
    cases x
    cases y
    exact congrArg ByteArray.mk (Array.toList_inj.1 e)
  exact ⟨f _ _ e1, f _ _ e2⟩
/-- What leads to a tree's text is the tree's, or two texts clash. -/
theorem sound (xs : List ByteArray) (h32 : ∀ x ∈ xs, x.size = 32) (D i : Nat) : ∀ (r : List ByteArray) (k : Nat) (x : ByteArray), k + r.length = D → i < 2 ^ D → x.size = 32 → (∀ y ∈ r, y.size = 32) → clF i k x r = lf (lvs xs) D 0 →
    x = lf (lvs xs) k (i / 2 ^ k) ∨ ClashP (smA xs D D ++ wyF i k x r)
  | [], k, x, hk, hi, _, _, h => by
    simp only [List.length_nil, Nat.add_zero] at hk
    subst hk
    rw [Nat.div_eq_of_lt hi]
    exact .inl h
  | y :: r, k, x, hk, hi, hx, hr, h => by
    rw [List.length_cons] at hk
    have hy := hr y List.mem_cons_self
    have hz := lf_size (lvs xs) (lvs_size xs h32)
    obtain ⟨s, hs0⟩ : ∃ s, (if i / 2 ^ k % 2 = 0 then x ++ y else y ++ x) = s := ⟨_, rfl⟩
    have hss : (if i / 2 ^ k % 2 = 0 then hs x y else hs y x) = sumOf s := by
      rw [← hs0]
      split <;> rfl
    have ih := sound xs h32 D i r (k + 1) (if i / 2 ^ k % 2 = 0 then hs x y else hs y x) (by omega) hi (by split <;> exact hs_size _ _) (fun t ht => hr t (List.mem_cons_of_mem _ ht)) h
    rw [wyF, hs0]
    rcases ih with h1 | ⟨u, hu, t, ht, hne, he⟩
    · rw [hss] at h1
      have hd : i / 2 ^ (k + 1) = i / 2 ^ k / 2 := by rw [Nat.pow_succ, Nat.div_div_eq_div_mul]
      rw [hd] at h1
      obtain ⟨m, hm⟩ : ∃ m, i / 2 ^ k = m := ⟨_, rfl⟩
      rw [hm] at h1 hs0 ⊢
      have h2 : sumOf s = sumOf (lf (lvs xs) k (2 * (m / 2)) ++ lf (lvs xs) k (2 * (m / 2) + 1)) := h1
      by_cases e : s = lf (lvs xs) k (2 * (m / 2)) ++ lf (lvs xs) k (2 * (m / 2) + 1)
      · refine .inl ?_
        rw [← hs0] at e
        by_cases hev : m % 2 = 0
        · rw [if_pos hev] at e
          have := (app_inj e (by rw [hx, hz])).1
          rw [this, show 2 * (m / 2) = m by omega]
        · rw [if_neg hev] at e
          have := (app_inj e (by rw [hy, hz])).2
          rw [this, show 2 * (m / 2) + 1 = m by omega]
      · refine .inr ⟨s, List.mem_append_right _ List.mem_cons_self, _, List.mem_append_left _ (smA_mem xs D D k (m / 2) (by omega) ?_), e, h2⟩
        have hml : m < 2 ^ (D - k) := by
          rw [← hm]
          apply Nat.div_lt_of_lt_mul
          rw [← Nat.pow_add, show k + (D - k) = D by omega]
          exact hi
        have hle : 2 ^ (D - k) % 2 = 0 := by rw [show D - k = (D - k - 1) + 1 by omega, Nat.pow_succ]; omega
        omega
    · refine .inr ⟨u, ?_, t, ?_, hne, he⟩
      · rcases List.mem_append.1 hu with h' | h'
        · exact List.mem_append_left _ h'
        · rw [hss] at h'
          exact List.mem_append_right _ (List.mem_cons_of_mem _ (by rw [hss]; exact h'))
      · rcases List.mem_append.1 ht with h' | h'
        · exact List.mem_append_left _ h'
        · rw [hss] at h'
          exact List.mem_append_right _ (List.mem_cons_of_mem _ (by rw [hss]; exact h'))
end Go.Proofs.YtmefanagpkbjeabDoor
namespace Go.Proofs.YtmefanagpkbjeabDoor
open Go.RowKit Go.Shelf Go.Sort

/-- Texts' digests, as cells. -/
def sumV (xs : List ByteArray) : List Value := (xs.map sumOf).map .string
/-- Have two unlike texts of some one digest? -/
def clB (xs : List ByteArray) : Bool := xs.any fun x => xs.any fun y => decide (x ≠ y ∧ sumOf x = sumOf y)
set_option maxRecDepth 20000 in
set_option maxHeartbeats 1000000 in
theorem clash_any (xs : List ByteArray) (hx : xs.length ≤ 1000000) (hb : ∀ x ∈ xs, x.size ≤ 100000) (a : Option Addr) (c n : Nat) (w : World) (hn : n ≤ w.heap.size) (h1 : slS n w a xs) :
    Calls Tryd.prog 9 #[.slice a xs.length c] w fun e w' => e = .returned (.bool (clB xs)) ∧ Below w.heap.size w w' := by
  obtain ⟨i0, hi0, hz0, hz1, hz2⟩ := info_parts info_str8
  obtain ⟨N, hN⟩ : ∃ N, xs.length = N := ⟨_, rfl⟩
  have HN : Hid (xs.length = N) := hN
  rw [hN] at hx ⊢
  clear hN
  obtain ⟨q, hq⟩ : ∃ q, clB xs = q := ⟨_, rfl⟩
  have HQ : Hid _ := hq
  rw [hq]
  clear hq
  obtain ⟨z, hz⟩ : ∃ z, w.heap.size = z := ⟨_, rfl⟩
  rw [hz] at hn ⊢
  have B0 : Below z w w := by rw [← hz]; exact Below.refl _ _
  have HZ : Hid _ := hz
  clear hz
  go_enter Tryd.func9, Tryd.ntmps9
  go_wp2_with fail
  go_loopg [3, 4] N (fun gk v i wr => ∃ k : Nat, k + gk = N ∧ i = .int .i64 k ∧ Below z w wr ∧ z ≤ wr.heap.size ∧ wr.ownsRow z 9 1 v k (sumV (xs.take k)))
  case atStart => exact ⟨0, by omega, rfl, B0, by have := HZ.out; omega, World.ownsRow_nil _ _ _ _⟩
  case round =>
    clear B0
    obtain ⟨k, hk, rfl, BW, hzw, hown⟩ := hrel
    have hr3 : ∀ b, u3.ownBlock = some b → z ≤ b := fun b hb => (hown.lt b hb).1
    by_cases hlt : k < N
    · have l1 : (k : Int) < N := by omega
      obtain ⟨x, hxk⟩ : ∃ f, xs[k]? = some f := ⟨xs[k]'(by have := HN.out; omega), List.getElem?_eq_getElem (by have := HN.out; omega)⟩
      have hxb := hb x (List.mem_of_getElem? hxk)
      obtain ⟨b, o, rfl, hbn, c0⟩ := slS_at h1 k x hxk
      replace c0 := (BW.cell (p := ⟨b, _, none⟩) (by show b < z; omega)).trans c0
      obtain ⟨r, hr⟩ : ∃ p, o + k = p := ⟨_, rfl⟩
      rw [hr] at c0
      have wk : IntKind.i64.wrap ((k : Int) + 1) = ((k + 1 : Nat) : Int) := by rw [IntKind.wrap_i64]; omega
      have KM := rsum_any x hxb
      obtain ⟨s, hs⟩ : ∃ s, sumOf x = s := ⟨_, rfl⟩
      rw [hs] at KM
      have hnext : sumV (xs.take (k + 1)) = sumV (xs.take k) ++ [.string s] := by
        unfold sumV
        rw [List.take_add_one, hxk, Option.toList, List.map_append, List.map_append, ← hs]
        rfl
      have HX : Hid _ := hnext
      have HO : Hid _ := hown
      clear hnext hs hxk hxb hown
      go_wp2_with fail
      refine (KM _).mono ?_
      rintro e w3 ⟨rfl, B3⟩
      clear KM c0
      have BW3 := belowStep BW hzw B3
      have A1 : Below w3.heap.size w3 (w3.alloc (.cells #[.string s] 9)) := (Below.refl _ w3).alloc (Nat.le_refl _) _
      have hnew := World.alloc_heap_new w3 (.cells #[.string s] 9)
      have hown2 := owns_below8 (owns_below8 HO.out B3) A1
      have hs0 := B3.size
      have hs1 := A1.size
      have BW4 := belowStep BW3 (Nat.le_trans hzw hs0) A1
      have HV : Hid (_ ∧ _ ∧ _) := ⟨hown2, hnew, BW4⟩
      clear A1 hnew hown2 BW BW3 BW4 B3 HO
      go_wp2_with (at_builtin; refine wpList_append_own _ rfl _ _ 27 rfl z 9 i0 (.string ⟨#[]⟩) 1 16 Tryd.underlying27 hi0 hz0 hz1 hz2 rfl (by decide) _ _ _ rfl HV.out.1 ⟨w3.heap.size, 0, none⟩ 1 1 [.string s] rfl rfl (one_new' _ _ _) (by intro u hu; simp at hu; subst hu; rfl) (by unfold maxLen; omega) (by omega) (by simp; omega) ?_)
      intro v' w6 a2 a3 a4
      have HW : Hid (_ ∧ _) := ⟨a2, a3⟩
      clear a2 a3 a4
      go_wp2
      go_roundg (gk - 1)
      case measure => omega
      case rel =>
        obtain ⟨a2, a3⟩ := HW.out
        refine ⟨k + 1, by omega, by first | rfl | (congr 1; omega), HV.out.2.2.grown a3 (by omega) (fun q e => hr3 q e), Nat.le_trans (Nat.le_trans hzw (Nat.le_trans hs0 hs1)) a3.size, ?_⟩
        rw [HX.out]
        exact a2
    · have l1 : ¬ (k : Int) < N := by omega
      obtain rfl : k = N := by omega
      rw [List.take_of_length_le (by have := HN.out; omega)] at hown
      have hlen : (xs.map sumOf).length = k := by rw [List.length_map]; exact HN.out
      have hown3 : wr.ownsRow z 9 1 u3 (xs.map sumOf).length ((xs.map sumOf).map .string) := by rw [hlen]; exact hown
      obtain ⟨a', c', rfl, hs⟩ := slS_owns hown3
      rw [hlen]
      clear hown hown3 hlen hr3
      have HWZ : Hid (_ ∧ _) := ⟨BW, hzw⟩
      have BR := Below.refl wr.heap.size wr
      obtain ⟨z2, hz2'⟩ : ∃ z2, wr.heap.size = z2 := ⟨_, rfl⟩
      rw [hz2'] at hs BR hzw
      have FIN : ∀ w8, Below z2 wr w8 → Below z w w8 := fun w8 h => belowStep HWZ.out.1 HWZ.out.2 (by rw [hz2']; exact h)
      have HFIN : Hid _ := FIN
      have SIZ : ∀ w8, Below z2 wr w8 → z2 ≤ w8.heap.size := fun w8 h => by have := h.size; omega
      have HSIZ : Hid _ := SIZ
      have CX : ∀ (j : Nat) (x : ByteArray), xs[j]? = some x → ∃ b o, a = some ⟨b, o, none⟩ ∧ b < z2 ∧ wr.cell? ⟨b, o + j, none⟩ = some (.string x) := by
        intro j x hj
        obtain ⟨b, o, e, hbn, c0⟩ := slS_at h1 j x hj
        exact ⟨b, o, e, by omega, (HWZ.out.1.cell (p := ⟨b, _, none⟩) (by show b < z; omega)).trans c0⟩
      have HCX : Hid _ := CX
      have CS : ∀ (j : Nat) (x : ByteArray), xs[j]? = some x → ∃ b o, a' = some ⟨b, o, none⟩ ∧ b < z2 ∧ wr.cell? ⟨b, o + j, none⟩ = some (.string (sumOf x)) := by
        intro j x hj
        exact slS_at hs j (sumOf x) (by rw [List.getElem?_map, hj]; rfl)
      have HCS : Hid _ := CS
      have HNX : Hid (∀ j, j < k → ∃ x, xs[j]? = some x) := fun j hj => ⟨xs[j]'(by have := HN.out; omega), List.getElem?_eq_getElem (by have := HN.out; omega)⟩
      clear hs FIN SIZ CX CS BW hz2' h1 hzw hb
      go_wp2_with fail
      go_loopg [5, 6] k (fun gk i v6 wr' => ∃ m : Nat, m + gk = k ∧ i = .int .i64 m ∧ Hid (∀ (i j : Nat) (x y : ByteArray), i < m → j < i → xs[i]? = some x → xs[j]? = some y → ¬ (x ≠ y ∧ sumOf x = sumOf y)) ∧ Below z2 wr wr')
      case atStart => exact ⟨0, by omega, rfl, (fun i j x y h => by omega), BR⟩
      case round =>
        clear BR
        obtain ⟨m, hm, rfl, hA, BW⟩ := hrel
        by_cases hlm : m < k
        · have l2 : (m : Int) < k := by omega
          obtain ⟨og, rfl⟩ : ∃ g, gk = g + 1 := ⟨gk - 1, by omega⟩
          obtain ⟨x, hxm⟩ := HNX.out m hlm
          obtain ⟨b, o, rfl, hb1, c0⟩ := HCX.out m x hxm
          obtain ⟨b2, o2, rfl, hb2, c2⟩ := HCS.out m x hxm
          obtain ⟨r, hr⟩ : ∃ p, o + m = p := ⟨_, rfl⟩
          obtain ⟨r2, hr2⟩ : ∃ p, o2 + m = p := ⟨_, rfl⟩
          rw [hr] at c0
          rw [hr2] at c2
          have wk : IntKind.i64.wrap ((m : Int) + 1) = ((m + 1 : Nat) : Int) := by rw [IntKind.wrap_i64]; omega
          obtain ⟨sx, hsx⟩ : ∃ s, sumOf x = s := ⟨_, rfl⟩
          rw [hsx] at c2
          have HX : Hid (_ ∧ _) := ⟨hxm, hsx⟩
          have HC : Hid (_ ∧ _) := ⟨c0, c2⟩
          clear hxm hsx c0 c2
          go_wp2_with fail
          go_loopg [6] m (fun gm v6 wr' => ∃ j : Nat, j + gm = m ∧ v6 = .int .i64 j ∧ Hid (∀ (i : Nat) (y : ByteArray), i < j → xs[i]? = some y → ¬ (x ≠ y ∧ sumOf x = sumOf y)) ∧ Below z2 _ wr')
          case atStart => exact ⟨0, by omega, rfl, (fun i y h => by omega), BW⟩
          case round =>
            clear BW
            obtain ⟨j, hj, rfl, hA2, BW⟩ := hrel
            have hwz : z2 ≤ wr.heap.size := HSIZ.out _ BW
            by_cases hlj : j < m
            · have l3 : (j : Int) < m := by omega
              have l4 : (j : Int) < k := by omega
              obtain ⟨y, hyj⟩ := HNX.out j (by omega)
              obtain ⟨b', o', e', hb1', c1⟩ := HCX.out j y hyj
              injection e' with e'
              injection e' with e1 e2
              subst e1 e2
              obtain ⟨b2', o2', e', hb2', c3⟩ := HCS.out j y hyj
              injection e' with e'
              injection e' with e1 e2
              subst e1 e2
              obtain ⟨r', hr'⟩ : ∃ p, o + j = p := ⟨_, rfl⟩
              obtain ⟨r2', hr2'⟩ : ∃ p, o2 + j = p := ⟨_, rfl⟩
              rw [hr'] at c1
              rw [hr2'] at c3
              have wk' : IntKind.i64.wrap ((j : Int) + 1) = ((j + 1 : Nat) : Int) := by rw [IntKind.wrap_i64]; omega
              obtain ⟨sy, hsy⟩ : ∃ s, sumOf y = s := ⟨_, rfl⟩
              rw [hsy] at c3
              have HY : Hid (_ ∧ _) := ⟨hyj, hsy⟩
              clear hyj hsy
              have hbv : b < wr.heap.size := by omega
              have hbv' : b2 < wr.heap.size := by omega
              have d0 := (BW.cell (p := ⟨b, r, none⟩) (by show b < z2; omega)).trans HC.out.1
              have d1 := (BW.cell (p := ⟨b, r', none⟩) (by show b < z2; omega)).trans c1
              have d2 := (BW.cell (p := ⟨b2, r2, none⟩) (by show b2 < z2; omega)).trans HC.out.2
              have d3 := (BW.cell (p := ⟨b2, r2', none⟩) (by show b2 < z2; omega)).trans c3
              have q0 : ∀ d os, (grow (redrawn wr d) os).cell? ⟨b, r, none⟩ = some (.string x) := fun d os => ((below_regrown wr d os).cell (p := ⟨b, r, none⟩) hbv).trans d0
              have q1 : ∀ d os, (grow (redrawn wr d) os).cell? ⟨b, r', none⟩ = some (.string y) := fun d os => ((below_regrown wr d os).cell (p := ⟨b, r', none⟩) hbv).trans d1
              have q2 : ∀ d os, (grow (redrawn wr d) os).cell? ⟨b2, r2, none⟩ = some (.string sx) := fun d os => ((below_regrown wr d os).cell (p := ⟨b2, r2, none⟩) hbv').trans d2
              have q3 : ∀ d os, (grow (redrawn wr d) os).cell? ⟨b2, r2', none⟩ = some (.string sy) := fun d os => ((below_regrown wr d os).cell (p := ⟨b2, r2', none⟩) hbv').trans d3
              clear c1 c3 d0 d1 d2 d3
              by_cases e1 : x = y
              · have s1 : (x.toList == y.toList) = true := by rw [e1]; exact beq_self_eq_true _
                have HD : Hid (¬ (x ≠ y ∧ sumOf x = sumOf y)) := fun h => h.1 e1
                clear e1
                go_wp2_with fail
                refine wp_region_quiet_below (by kernel_rfl) (by kernel_rfl) ?_
                repeat (go_big_quiet_step (fail))
                refine wpQuiet_nil ?_
                intro w8 hw8
                have B8 : Below wr.heap.size wr w8 := by
                  obtain ⟨p, rfl⟩ := hw8
                  exact below_regrown _ _ _
                have BW8 := belowStep BW hwz B8
                clear hw8 q0 q1 q2 q3
                go_wp2
                go_roundg (gk - 1)
                case measure => omega
                case rel =>
                  refine ⟨j + 1, by omega, by first | rfl | (congr 1; omega), ?_, BW8⟩
                  intro i y' hi hy'
                  by_cases ei : i = j
                  · subst ei
                    rw [HY.out.1] at hy'
                    cases hy'
                    exact HD.out
                  · exact hA2.out i y' (by omega) hy'
              · have s1 : (x.toList == y.toList) = false := by rw [beq_eq_false_iff_ne]; exact fun e => e1 (toList_inj e)
                by_cases e2 : sx = sy
                · have s2 : (sx.toList == sy.toList) = true := by rw [e2]; exact beq_self_eq_true _
                  have hqt : q = true := by
                    rw [← HQ.out, clB, List.any_eq_true]
                    refine ⟨x, List.mem_of_getElem? HX.out.1, ?_⟩
                    rw [List.any_eq_true]
                    exact ⟨y, List.mem_of_getElem? HY.out.1, decide_eq_true ⟨e1, by rw [HX.out.2, HY.out.2]; exact e2⟩⟩
                  have HD : Hid (q = true) := hqt
                  clear e1 e2 hqt
                  go_wp2_with fail
                  refine wp_region_quiet_below (by kernel_rfl) (by kernel_rfl) ?_
                  repeat (go_big_quiet_step (fail))
                  refine wpQuiet_nil ?_
                  intro w8 hw8
                  have B8 : Below wr.heap.size wr w8 := by
                    obtain ⟨p, rfl⟩ := hw8
                    exact below_regrown _ _ _
                  have BW8 := belowStep BW hwz B8
                  clear hw8 q0 q1 q2 q3
                  go_wp2
                  go_ret
                  exact ⟨by rw [HD.out]; rfl, HFIN.out _ BW8⟩
                · have s2 : (sx.toList == sy.toList) = false := by rw [beq_eq_false_iff_ne]; exact fun e => e2 (toList_inj e)
                  have HD : Hid (¬ (x ≠ y ∧ sumOf x = sumOf y)) := fun h => e2 (by rw [← HX.out.2, ← HY.out.2]; exact h.2)
                  clear e1 e2
                  go_wp2_with fail
                  refine wp_region_quiet_below (by kernel_rfl) (by kernel_rfl) ?_
                  repeat (go_big_quiet_step (fail))
                  refine wpQuiet_nil ?_
                  intro w8 hw8
                  have B8 : Below wr.heap.size wr w8 := by
                    obtain ⟨p, rfl⟩ := hw8
                    exact below_regrown _ _ _
                  have BW8 := belowStep BW hwz B8
                  clear hw8 q0 q1 q2 q3
                  go_wp2
                  go_roundg (gk - 1)
                  case measure => omega
                  case rel =>
                    refine ⟨j + 1, by omega, by first | rfl | (congr 1; omega), ?_, BW8⟩
                    intro i y' hi hy'
                    by_cases ei : i = j
                    · subst ei
                      rw [HY.out.1] at hy'
                      cases hy'
                      exact HD.out
                    · exact hA2.out i y' (by omega) hy'
            · have l3 : ¬ (j : Int) < m := by omega
              go_wp2
              go_roundg og
              case measure => omega
              case rel =>
                refine ⟨m + 1, by omega, by first | rfl | (congr 1; omega), ?_, BW⟩
                intro i j' x' y' hi hj' hx' hy'
                by_cases ei : i = m
                · subst ei
                  rw [HX.out.1] at hx'
                  cases hx'
                  exact hA2.out j' y' (by omega) hy'
                · exact hA.out i j' x' y' (by omega) hj' hx' hy'
        · have l2 : ¬ (m : Int) < k := by omega
          have hqf : q = false := by
            rw [← HQ.out, clB, List.any_eq_false]
            intro x hx
            rw [Bool.not_eq_true, List.any_eq_false]
            intro y hy
            rw [Bool.not_eq_true]
            refine decide_eq_false fun h => ?_
            obtain ⟨i, hi⟩ := List.mem_iff_getElem?.1 hx
            obtain ⟨j, hj⟩ := List.mem_iff_getElem?.1 hy
            have := (List.getElem?_eq_some_iff.1 hi).1
            have := (List.getElem?_eq_some_iff.1 hj).1
            have := HN.out
            rcases Nat.lt_trichotomy i j with c | c | c
            · exact hA.out j i y x (by omega) c hj hi ⟨fun e => h.1 e.symm, h.2.symm⟩
            · subst c
              rw [hi] at hj
              exact h.1 (Option.some.inj hj)
            · exact hA.out i j x y (by omega) c hi hj h
          have HG : Hid (q = false) := hqf
          clear hqf
          go_wp2
          go_ret
          exact ⟨by rw [HG.out]; rfl, HFIN.out _ BW⟩
end Go.Proofs.YtmefanagpkbjeabDoor
